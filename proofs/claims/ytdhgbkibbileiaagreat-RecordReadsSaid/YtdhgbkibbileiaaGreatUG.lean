/-
UG
-/
import Derived.Test.YtdhgbkibbileiaaGreatUF
import Derived.Test.YtdhgbkibbileiaaGreatUD
import Derived.Test.YtdhgbkibbileiaaGreatUE
import Derived.Test.YtdhgbkibbileiaaGreatTK
import Derived.OrdersHeld
import Derived.Deep.Cut
import Derived.Deep.RegionHeld
import Derived.Deep.QuietTactic
import Derived.BigQuiet
set_option maxRecDepth 100000
namespace Go.Proofs.YtdhgbkibbileiaaGreat
open Go.RowKit
theorem rread_any (w : World) (S Y : Nat → Prop) (g : Nat) (l : List Nat) (x : Nat) (hx : x < 256) (h : Qe w S Y g true l) (hS : ∀ b, S b → b < w.heap.size) (hY : ∀ b, Y b → b < w.heap.size) (hl : l.length ≤ 20000) :
  Calls Tryz.prog 36 #[.int .i64 (x : Int), qp g] w (ReadD w S Y g (dR (x : Int) true l)) := by
 by_cases h1 : (x : Int) = 1
 ·exact rread_1 w S Y g true l _ (by omega) (by omega) h1 h hS hY
 by_cases h2 : (x : Int) = 2
 ·exact rread_2 w S Y g true l _ (by omega) (by omega) h2 h hS hY
 by_cases h3 : (x : Int) = 3
 ·exact rread_3 w S Y g true l _ (by omega) (by omega) h3 h hS hY
 by_cases h4 : (x : Int) = 4
 ·exact rread_4 w S Y g true l _ (by omega) (by omega) h4 h hS hY hl
 by_cases h8 : (x : Int) = 8
 ·exact rread_8 w S Y g true l _ (by omega) (by omega) h8 h hS hY hl
 ·exact rread_o w S Y g true l _ (by omega) (by omega) ⟨h1, h2, h3, h4, h8⟩ h hS hY
theorem RB.block_ {w : World} {S : Nat → Prop} {ad : Addr} {n : Nat} {l : List Nat} (h : RB w S (some ad) n l) : RB w (fun b => b = ad.block) (some ad) n l :=
 ⟨h.1, h.2.1, fun hn => by
  obtain ⟨ad', e, hb, _, hc⟩ := h.2.2 hn
  injection e with e
  subst e
  exact ⟨ad, rfl, hb, rfl, hc⟩⟩
def DecQ (w : World) (l : List Nat) (e : Ending) (w' : World) : Prop := ∃ r : RV, e = .returned (.tuple #[r.agg, .int .i64 ((decR l).2.1 : Int), .int .i64 (decR l).2.2]) ∧ r.e = (decR l).1 ∧ r.In w' All ∧ Below w.heap.size w w'
attribute [local go_sem high] run_neqL run_eqL in
set_option maxHeartbeats 16000000 in
theorem rdec_s1 (w : World) (A : Option Addr) (n c : Nat) (l : List Nat) (hr : RB w All A n l) (hnc : n ≤ c) (hlo : n ≤ 140737488351232) (h2 : n < 2) : Calls Tryz.prog 19 #[.slice A n c] w (DecQ w l) := by
 have hlen : l.length = n := hr.len
 have HR := Lib.hid hr
 have HLEN := Lib.hid hlen
 have HNC := Lib.hid (And.intro hnc hlo)
 obtain ⟨W0, hW0⟩ : ∃ W0, w.alloc (.cells #[.int .i64 0, .int .u64 0, .int .u32 0, .int .u64 0, .int .u64 0, .int .u32 0, .int .u32 0, .int .i64 0, .int .i64 0, .int .u32 0, .slice none 0 0, .slice none 0 0, .slice none 0 0, .slice none 0 0, .int .u32 0] 31) = W0 := ⟨_, rfl⟩
 have HB0 : Hid (Blk W0 w.heap.size 31 #[.int .i64 0, .int .u64 0, .int .u32 0, .int .u64 0, .int .u64 0, .int .u32 0, .int .u32 0, .int .i64 0, .int .i64 0, .int .u32 0, .slice none 0 0, .slice none 0 0, .slice none 0 0, .slice none 0 0, .int .u32 0]) := Lib.hid (by rw [← hW0]; exact Blk.new w 31 _)
 have HL0 : Hid (Below w.heap.size w W0) := Lib.hid (by rw [← hW0]; exact (Below.refl _ _).alloc (Nat.le_refl _) _)
 have HSZ0 : Hid (W0.heap.size = w.heap.size + 1) := Lib.hid (by rw [← hW0]; simp)
 have HR0 := Lib.hid (hr.keep (Fr.of_below HL0.out No) fun _ _ hn => hn)
 have d1 : decide ((n : Int) < 2) = true := decide_eq_true (by omega)
 have d2 : decide (n < 2) = true := decide_eq_true h2
 have HH2 := Lib.hid h2
 clear hr hnc hlo hlen h2
 go_enter Tryz.func19, Tryz.ntmps19
 go_wp2_with (first
  | (refine wpList_stB rfl 31 (.tmp 2) (.tmp 11) rfl w.heap.size #[.int .i64 0, .int .u64 0, .int .u32 0, .int .u64 0, .int .u64 0, .int .u32 0, .int .u32 0, .int .i64 0, .int .i64 0, .int .u32 0, .slice none 0 0, .slice none 0 0, .slice none 0 0, .slice none 0 0, .int .u32 0] rfl rfl 31 #[.int .i64 0, .int .u64 0, .int .u32 0, .int .u64 0, .int .u64 0, .int .u32 0, .int .u32 0, .int .i64 0, .int .i64 0, .int .u32 0, .slice none 0 0, .slice none 0 0, .slice none 0 0, .slice none 0 0, .int .u32 0] HB0.out size31 rfl rfl ?_
     intro G hbG hfG
     have HBG := Lib.hid hbG
     have HFG := Lib.hid hfG
     clear hbG hfG)
  | fail)
 have hld := run_loadVar_row (P := Tryz.prog) G w.heap.size 31 31 #[.int .i64 0, .int .u64 0, .int .u32 0, .int .u64 0, .int .u64 0, .int .u32 0, .int .u32 0, .int .i64 0, .int .i64 0, .int .u32 0, .slice none 0 0, .slice none 0 0, .slice none 0 0, .slice none 0 0, .int .u32 0] (0, 0) _ HBG.out Tryz.underlying31 rfl size31
 refine bodyPost_ret (v := .tuple #[.agg #[.int .i64 0, .int .u64 0, .int .u32 0, .int .u64 0, .int .u64 0, .int .u32 0, .int .u32 0, .int .i64 0, .int .i64 0, .int .u32 0, .slice none 0 0, .slice none 0 0, .slice none 0 0, .slice none 0 0, .int .u32 0], .int .i64 0, .int .i64 6]) (by simp [results, Tryz.results19, asAddr, hld]) rfl ?_
 have hd : decR l = (zE, 0, 6) := by unfold decR; rw [if_pos (by rw [HLEN.out]; exact HH2.out)]
 unfold DecQ
 rw [hd]
 exact ⟨rz 0, rfl, rfl, rz0_In _ _, HL0.out.trans (HFG.out.below (fun b hb => by omega) HL0.out.size)⟩
attribute [local go_sem high] run_neqL run_eqL in
set_option maxHeartbeats 16000000 in
theorem rdec_s2 (w : World) (A : Option Addr) (n c : Nat) (l : List Nat) (hr : RB w All A n l) (hnc : n ≤ c) (hlo : n ≤ 140737488351232) (h2 : 2 ≤ n) (h3 : Cd.unfix (l.take 2) < 3 ∨ 16384 < Cd.unfix (l.take 2)) : Calls Tryz.prog 19 #[.slice A n c] w (DecQ w l) := by
 have hlen : l.length = n := hr.len
 have HR := Lib.hid hr
 have HLEN := Lib.hid hlen
 have HNC := Lib.hid (And.intro hnc hlo)
 obtain ⟨W0, hW0⟩ : ∃ W0, w.alloc (.cells #[.int .i64 0, .int .u64 0, .int .u32 0, .int .u64 0, .int .u64 0, .int .u32 0, .int .u32 0, .int .i64 0, .int .i64 0, .int .u32 0, .slice none 0 0, .slice none 0 0, .slice none 0 0, .slice none 0 0, .int .u32 0] 31) = W0 := ⟨_, rfl⟩
 have HB0 : Hid (Blk W0 w.heap.size 31 #[.int .i64 0, .int .u64 0, .int .u32 0, .int .u64 0, .int .u64 0, .int .u32 0, .int .u32 0, .int .i64 0, .int .i64 0, .int .u32 0, .slice none 0 0, .slice none 0 0, .slice none 0 0, .slice none 0 0, .int .u32 0]) := Lib.hid (by rw [← hW0]; exact Blk.new w 31 _)
 have HL0 : Hid (Below w.heap.size w W0) := Lib.hid (by rw [← hW0]; exact (Below.refl _ _).alloc (Nat.le_refl _) _)
 have HSZ0 : Hid (W0.heap.size = w.heap.size + 1) := Lib.hid (by rw [← hW0]; simp)
 have HR0 := Lib.hid (hr.keep (Fr.of_below HL0.out No) fun _ _ hn => hn)
 have d1 : decide ((n : Int) < 2) = false := decide_eq_false (by omega)
 have d2 : decide (n < 2) = false := decide_eq_false (by omega)
 obtain ⟨ad, rfl, hx0, q0⟩ := HR0.out.at_ (show 0 < n by omega)
 obtain ⟨_, e1, hx1, q1⟩ := HR0.out.at_ (show 1 < n by omega)
 injection e1 with e1
 subst e1
 have hun := unfix2 (l := l) (by omega)
 obtain ⟨x0, hX0⟩ : ∃ x, x = l.getD 0 0 := ⟨_, rfl⟩
 obtain ⟨x1, hX1⟩ : ∃ x, x = l.getD 1 0 := ⟨_, rfl⟩
 obtain ⟨N, hN⟩ : ∃ N, N = Cd.unfix (l.take 2) := ⟨_, rfl⟩
 rw [← hX0] at hx0 q0 hun
 rw [← hX1] at hx1 q1 hun
 rw [← hN] at hun
 have g0 : IntKind.i64.wrap (x0 : Int) = (x0 : Int) := IntWalk.i64_in _ (by omega)
 have g1 : IntKind.i64.wrap (x1 : Int) = (x1 : Int) := IntWalk.i64_in _ (by omega)
 have g2 : IntKind.i64.wrap (256 * (x1 : Int)) = 256 * (x1 : Int) := IntWalk.i64_in _ (by omega)
 have g3 : IntKind.i64.wrap ((x0 : Int) + 256 * (x1 : Int)) = (N : Int) := by rw [IntWalk.i64_in _ (by omega)]; omega
 have a0 : ad.add 0 = ad := by simp [Addr.add]
 have q0' : W0.cell? ad = some (.int .u8 (x0 : Int)) := by rw [a0] at q0; exact q0
 have q1' : W0.cell? { block := ad.block, off := ad.off + 1 } = some (.int .u8 (x1 : Int)) := by simpa [Addr.add] using q1
 have k0 : decide (0 < n) = true := decide_eq_true (by omega)
 have k1 : decide (1 < n) = true := decide_eq_true (by omega)
 have k2 : (1 : Int) < (n : Int) := by omega
 have k3 : (0 : Int) < (n : Int) := by omega
 have z0 : 0 < n := by omega
 have z1 : 1 < n := by omega
 have HNN := Lib.hid hN
 have HN2 : Hid (2 ≤ n) := Lib.hid (by omega)
 rw [← hN] at h3
 have HH3 := Lib.hid h3
 clear hr hnc hlo hlen h2 h3 hun hX0 hX1 hN hx0 hx1 a0
 go_enter Tryz.func19, Tryz.ntmps19
 go_upto_region 3 with fail
 go_quiet (fail)
 have HLq : Hid (Below w.heap.size w (W0.drewN nq)) := Lib.hid ⟨HL0.out.os, HL0.out.tape, HL0.out.output, HL0.out.size, HL0.out.block⟩
 rcases HH3.out with h3 | h3
 ·have d3 : decide ((N : Int) < 3) = true := decide_eq_true (by omega)
  have d4 : decide (N < 3) = true := decide_eq_true h3
  clear h3
  go_wp2_with (first
   | (refine wpList_stB rfl 31 (.tmp 2) (.tmp 28) rfl w.heap.size #[.int .i64 0, .int .u64 0, .int .u32 0, .int .u64 0, .int .u64 0, .int .u32 0, .int .u32 0, .int .i64 0, .int .i64 0, .int .u32 0, .slice none 0 0, .slice none 0 0, .slice none 0 0, .slice none 0 0, .int .u32 0] rfl rfl 31 #[.int .i64 0, .int .u64 0, .int .u32 0, .int .u64 0, .int .u64 0, .int .u32 0, .int .u32 0, .int .i64 0, .int .i64 0, .int .u32 0, .slice none 0 0, .slice none 0 0, .slice none 0 0, .slice none 0 0, .int .u32 0] HB0.out size31 rfl rfl ?_
      intro G hbG hfG
      have HBG := Lib.hid hbG
      have HFG := Lib.hid hfG
      clear hbG hfG)
   | fail)
  have hld := run_loadVar_row (P := Tryz.prog) G w.heap.size 31 31 #[.int .i64 0, .int .u64 0, .int .u32 0, .int .u64 0, .int .u64 0, .int .u32 0, .int .u32 0, .int .i64 0, .int .i64 0, .int .u32 0, .slice none 0 0, .slice none 0 0, .slice none 0 0, .slice none 0 0, .int .u32 0] (0, 0) _ HBG.out Tryz.underlying31 rfl size31
  refine bodyPost_ret (v := .tuple #[.agg #[.int .i64 0, .int .u64 0, .int .u32 0, .int .u64 0, .int .u64 0, .int .u32 0, .int .u32 0, .int .i64 0, .int .i64 0, .int .u32 0, .slice none 0 0, .slice none 0 0, .slice none 0 0, .slice none 0 0, .int .u32 0], .int .i64 0, .int .i64 5]) (by simp [results, Tryz.results19, asAddr, hld]) rfl ?_
  have hd : decR l = (zE, 0, 5) := by unfold decR; rw [if_neg (by rw [HLEN.out]; have := HN2.out; omega), if_pos (by rw [← HNN.out]; exact HH3.out)]
  unfold DecQ
  rw [hd]
  exact ⟨rz 0, rfl, rfl, rz0_In _ _, HLq.out.trans (HFG.out.below (fun b hb => by omega) HLq.out.size)⟩
 ·have d3 : decide ((N : Int) < 3) = false := decide_eq_false (by omega)
  have d4 : decide (N < 3) = false := decide_eq_false (by omega)
  have d5 : decide ((N : Int) > 16384) = true := decide_eq_true (by omega)
  have d6 : decide (16384 < N) = true := decide_eq_true h3
  clear h3
  go_wp2_with (first
   | (refine wpList_stB rfl 31 (.tmp 2) (.tmp 28) rfl w.heap.size #[.int .i64 0, .int .u64 0, .int .u32 0, .int .u64 0, .int .u64 0, .int .u32 0, .int .u32 0, .int .i64 0, .int .i64 0, .int .u32 0, .slice none 0 0, .slice none 0 0, .slice none 0 0, .slice none 0 0, .int .u32 0] rfl rfl 31 #[.int .i64 0, .int .u64 0, .int .u32 0, .int .u64 0, .int .u64 0, .int .u32 0, .int .u32 0, .int .i64 0, .int .i64 0, .int .u32 0, .slice none 0 0, .slice none 0 0, .slice none 0 0, .slice none 0 0, .int .u32 0] HB0.out size31 rfl rfl ?_
      intro G hbG hfG
      have HBG := Lib.hid hbG
      have HFG := Lib.hid hfG
      clear hbG hfG)
   | fail)
  have hld := run_loadVar_row (P := Tryz.prog) G w.heap.size 31 31 #[.int .i64 0, .int .u64 0, .int .u32 0, .int .u64 0, .int .u64 0, .int .u32 0, .int .u32 0, .int .i64 0, .int .i64 0, .int .u32 0, .slice none 0 0, .slice none 0 0, .slice none 0 0, .slice none 0 0, .int .u32 0] (0, 0) _ HBG.out Tryz.underlying31 rfl size31
  refine bodyPost_ret (v := .tuple #[.agg #[.int .i64 0, .int .u64 0, .int .u32 0, .int .u64 0, .int .u64 0, .int .u32 0, .int .u32 0, .int .i64 0, .int .i64 0, .int .u32 0, .slice none 0 0, .slice none 0 0, .slice none 0 0, .slice none 0 0, .int .u32 0], .int .i64 0, .int .i64 5]) (by simp [results, Tryz.results19, asAddr, hld]) rfl ?_
  have hd : decR l = (zE, 0, 5) := by unfold decR; rw [if_neg (by rw [HLEN.out]; have := HN2.out; omega), if_pos (by rw [← HNN.out]; exact HH3.out)]
  unfold DecQ
  rw [hd]
  exact ⟨rz 0, rfl, rfl, rz0_In _ _, HLq.out.trans (HFG.out.below (fun b hb => by omega) HLq.out.size)⟩
attribute [local go_sem high] run_neqL run_eqL in
set_option maxHeartbeats 16000000 in
theorem rdec_s3 (w : World) (A : Option Addr) (n c : Nat) (l : List Nat) (hr : RB w All A n l) (hnc : n ≤ c) (hlo : n ≤ 140737488351232) (h2 : 2 ≤ n) (h3 : 3 ≤ Cd.unfix (l.take 2) ∧ Cd.unfix (l.take 2) ≤ 16384) (h4 : n < Cd.unfix (l.take 2)) : Calls Tryz.prog 19 #[.slice A n c] w (DecQ w l) := by
 have hlen : l.length = n := hr.len
 have HR := Lib.hid hr
 have HLEN := Lib.hid hlen
 have HNC := Lib.hid (And.intro hnc hlo)
 obtain ⟨W0, hW0⟩ : ∃ W0, w.alloc (.cells #[.int .i64 0, .int .u64 0, .int .u32 0, .int .u64 0, .int .u64 0, .int .u32 0, .int .u32 0, .int .i64 0, .int .i64 0, .int .u32 0, .slice none 0 0, .slice none 0 0, .slice none 0 0, .slice none 0 0, .int .u32 0] 31) = W0 := ⟨_, rfl⟩
 have HB0 : Hid (Blk W0 w.heap.size 31 #[.int .i64 0, .int .u64 0, .int .u32 0, .int .u64 0, .int .u64 0, .int .u32 0, .int .u32 0, .int .i64 0, .int .i64 0, .int .u32 0, .slice none 0 0, .slice none 0 0, .slice none 0 0, .slice none 0 0, .int .u32 0]) := Lib.hid (by rw [← hW0]; exact Blk.new w 31 _)
 have HL0 : Hid (Below w.heap.size w W0) := Lib.hid (by rw [← hW0]; exact (Below.refl _ _).alloc (Nat.le_refl _) _)
 have HSZ0 : Hid (W0.heap.size = w.heap.size + 1) := Lib.hid (by rw [← hW0]; simp)
 have HR0 := Lib.hid (hr.keep (Fr.of_below HL0.out No) fun _ _ hn => hn)
 have d1 : decide ((n : Int) < 2) = false := decide_eq_false (by omega)
 have d2 : decide (n < 2) = false := decide_eq_false (by omega)
 obtain ⟨ad, rfl, hx0, q0⟩ := HR0.out.at_ (show 0 < n by omega)
 obtain ⟨_, e1, hx1, q1⟩ := HR0.out.at_ (show 1 < n by omega)
 injection e1 with e1
 subst e1
 have hun := unfix2 (l := l) (by omega)
 obtain ⟨x0, hX0⟩ : ∃ x, x = l.getD 0 0 := ⟨_, rfl⟩
 obtain ⟨x1, hX1⟩ : ∃ x, x = l.getD 1 0 := ⟨_, rfl⟩
 obtain ⟨N, hN⟩ : ∃ N, N = Cd.unfix (l.take 2) := ⟨_, rfl⟩
 rw [← hX0] at hx0 q0 hun
 rw [← hX1] at hx1 q1 hun
 rw [← hN] at hun
 have g0 : IntKind.i64.wrap (x0 : Int) = (x0 : Int) := IntWalk.i64_in _ (by omega)
 have g1 : IntKind.i64.wrap (x1 : Int) = (x1 : Int) := IntWalk.i64_in _ (by omega)
 have g2 : IntKind.i64.wrap (256 * (x1 : Int)) = 256 * (x1 : Int) := IntWalk.i64_in _ (by omega)
 have g3 : IntKind.i64.wrap ((x0 : Int) + 256 * (x1 : Int)) = (N : Int) := by rw [IntWalk.i64_in _ (by omega)]; omega
 have a0 : ad.add 0 = ad := by simp [Addr.add]
 have q0' : W0.cell? ad = some (.int .u8 (x0 : Int)) := by rw [a0] at q0; exact q0
 have q1' : W0.cell? { block := ad.block, off := ad.off + 1 } = some (.int .u8 (x1 : Int)) := by simpa [Addr.add] using q1
 have k0 : decide (0 < n) = true := decide_eq_true (by omega)
 have k1 : decide (1 < n) = true := decide_eq_true (by omega)
 have k2 : (1 : Int) < (n : Int) := by omega
 have k3 : (0 : Int) < (n : Int) := by omega
 have z0 : 0 < n := by omega
 have z1 : 1 < n := by omega
 have HNN := Lib.hid hN
 have HN2 : Hid (2 ≤ n) := Lib.hid (by omega)
 rw [← hN] at h3 h4
 have d3 : decide ((N : Int) < 3) = false := decide_eq_false (by omega)
 have d4 : decide (N < 3) = false := decide_eq_false (by omega)
 have d5 : decide ((N : Int) > 16384) = false := decide_eq_false (by omega)
 have d6 : decide (16384 < N) = false := decide_eq_false (by omega)
 have d7 : decide ((n : Int) < (N : Int)) = true := decide_eq_true (by omega)
 have d8 : decide (n < N) = true := decide_eq_true h4
 have HH3 := Lib.hid (And.intro h3 h4)
 clear hr hnc hlo hlen h2 h3 h4 hun hX0 hX1 hN hx0 hx1 a0
 go_enter Tryz.func19, Tryz.ntmps19
 go_upto_region 3 with fail
 go_quiet (fail)
 have HLq : Hid (Below w.heap.size w (W0.drewN nq)) := Lib.hid ⟨HL0.out.os, HL0.out.tape, HL0.out.output, HL0.out.size, HL0.out.block⟩
 go_wp2_with (first
  | (refine wpList_stB rfl 31 (.tmp 2) (.tmp 33) rfl w.heap.size #[.int .i64 0, .int .u64 0, .int .u32 0, .int .u64 0, .int .u64 0, .int .u32 0, .int .u32 0, .int .i64 0, .int .i64 0, .int .u32 0, .slice none 0 0, .slice none 0 0, .slice none 0 0, .slice none 0 0, .int .u32 0] rfl rfl 31 #[.int .i64 0, .int .u64 0, .int .u32 0, .int .u64 0, .int .u64 0, .int .u32 0, .int .u32 0, .int .i64 0, .int .i64 0, .int .u32 0, .slice none 0 0, .slice none 0 0, .slice none 0 0, .slice none 0 0, .int .u32 0] HB0.out size31 rfl rfl ?_
     intro G hbG hfG
     have HBG := Lib.hid hbG
     have HFG := Lib.hid hfG
     clear hbG hfG)
  | fail)
 have hld := run_loadVar_row (P := Tryz.prog) G w.heap.size 31 31 #[.int .i64 0, .int .u64 0, .int .u32 0, .int .u64 0, .int .u64 0, .int .u32 0, .int .u32 0, .int .i64 0, .int .i64 0, .int .u32 0, .slice none 0 0, .slice none 0 0, .slice none 0 0, .slice none 0 0, .int .u32 0] (0, 0) _ HBG.out Tryz.underlying31 rfl size31
 refine bodyPost_ret (v := .tuple #[.agg #[.int .i64 0, .int .u64 0, .int .u32 0, .int .u64 0, .int .u64 0, .int .u32 0, .int .u32 0, .int .i64 0, .int .i64 0, .int .u32 0, .slice none 0 0, .slice none 0 0, .slice none 0 0, .slice none 0 0, .int .u32 0], .int .i64 0, .int .i64 6]) (by simp [results, Tryz.results19, asAddr, hld]) rfl ?_
 have hd : decR l = (zE, 0, 6) := by unfold decR; rw [if_neg (by rw [HLEN.out]; have := HN2.out; omega), if_neg (by rw [← HNN.out]; have := HH3.out; omega), if_pos (by rw [HLEN.out, ← HNN.out]; exact HH3.out.2)]
 unfold DecQ
 rw [hd]
 exact ⟨rz 0, rfl, rfl, rz0_In _ _, HLq.out.trans (HFG.out.below (fun b hb => by omega) HLq.out.size)⟩
attribute [local go_sem high] run_neqL run_eqL in
set_option maxHeartbeats 16000000 in
theorem rdec_s4b (w : World) (A : Option Addr) (n c : Nat) (l : List Nat) (hr : RB w All A n l) (hnc : n ≤ c) (hlo : n ≤ 140737488351232) (h2 : 2 ≤ n) (h3 : 3 ≤ Cd.unfix (l.take 2) ∧ Cd.unfix (l.take 2) ≤ 16384) (h4 : Cd.unfix (l.take 2) ≤ n) (h3c : c ≠ 3) : Calls Tryz.prog 19 #[.slice A n c] w (DecQ w l) := by
 have hlen : l.length = n := hr.len
 have HR := Lib.hid hr
 have HLEN := Lib.hid hlen
 have HNC := Lib.hid (And.intro hnc hlo)
 obtain ⟨W0, hW0⟩ : ∃ W0, w.alloc (.cells #[.int .i64 0, .int .u64 0, .int .u32 0, .int .u64 0, .int .u64 0, .int .u32 0, .int .u32 0, .int .i64 0, .int .i64 0, .int .u32 0, .slice none 0 0, .slice none 0 0, .slice none 0 0, .slice none 0 0, .int .u32 0] 31) = W0 := ⟨_, rfl⟩
 have HB0 : Hid (Blk W0 w.heap.size 31 #[.int .i64 0, .int .u64 0, .int .u32 0, .int .u64 0, .int .u64 0, .int .u32 0, .int .u32 0, .int .i64 0, .int .i64 0, .int .u32 0, .slice none 0 0, .slice none 0 0, .slice none 0 0, .slice none 0 0, .int .u32 0]) := Lib.hid (by rw [← hW0]; exact Blk.new w 31 _)
 have HL0 : Hid (Below w.heap.size w W0) := Lib.hid (by rw [← hW0]; exact (Below.refl _ _).alloc (Nat.le_refl _) _)
 have HSZ0 : Hid (W0.heap.size = w.heap.size + 1) := Lib.hid (by rw [← hW0]; simp)
 have HR0 := Lib.hid (hr.keep (Fr.of_below HL0.out No) fun _ _ hn => hn)
 have d1 : decide ((n : Int) < 2) = false := decide_eq_false (by omega)
 have d2 : decide (n < 2) = false := decide_eq_false (by omega)
 obtain ⟨ad, rfl, hx0, q0⟩ := HR0.out.at_ (show 0 < n by omega)
 obtain ⟨_, e1, hx1, q1⟩ := HR0.out.at_ (show 1 < n by omega)
 injection e1 with e1
 subst e1
 have hun := unfix2 (l := l) (by omega)
 obtain ⟨x0, hX0⟩ : ∃ x, x = l.getD 0 0 := ⟨_, rfl⟩
 obtain ⟨x1, hX1⟩ : ∃ x, x = l.getD 1 0 := ⟨_, rfl⟩
 obtain ⟨N, hN⟩ : ∃ N, N = Cd.unfix (l.take 2) := ⟨_, rfl⟩
 rw [← hX0] at hx0 q0 hun
 rw [← hX1] at hx1 q1 hun
 rw [← hN] at hun
 have g0 : IntKind.i64.wrap (x0 : Int) = (x0 : Int) := IntWalk.i64_in _ (by omega)
 have g1 : IntKind.i64.wrap (x1 : Int) = (x1 : Int) := IntWalk.i64_in _ (by omega)
 have g2 : IntKind.i64.wrap (256 * (x1 : Int)) = 256 * (x1 : Int) := IntWalk.i64_in _ (by omega)
 have g3 : IntKind.i64.wrap ((x0 : Int) + 256 * (x1 : Int)) = (N : Int) := by rw [IntWalk.i64_in _ (by omega)]; omega
 have a0 : ad.add 0 = ad := by simp [Addr.add]
 have q0' : W0.cell? ad = some (.int .u8 (x0 : Int)) := by rw [a0] at q0; exact q0
 have q1' : W0.cell? { block := ad.block, off := ad.off + 1 } = some (.int .u8 (x1 : Int)) := by simpa [Addr.add] using q1
 have k0 : decide (0 < n) = true := decide_eq_true (by omega)
 have k1 : decide (1 < n) = true := decide_eq_true (by omega)
 have k2 : (1 : Int) < (n : Int) := by omega
 have k3 : (0 : Int) < (n : Int) := by omega
 have z0 : 0 < n := by omega
 have z1 : 1 < n := by omega
 have HNN := Lib.hid hN
 have HN2 : Hid (2 ≤ n) := Lib.hid (by omega)
 rw [← hN] at h3 h4
 have d3 : decide ((N : Int) < 3) = false := decide_eq_false (by omega)
 have d4 : decide (N < 3) = false := decide_eq_false (by omega)
 have d5 : decide ((N : Int) > 16384) = false := decide_eq_false (by omega)
 have d6 : decide (16384 < N) = false := decide_eq_false (by omega)
 have d7 : decide ((n : Int) < (N : Int)) = false := decide_eq_false (by omega)
 have d8 : decide (n < N) = false := decide_eq_false (by omega)
 obtain ⟨_, e2, hx2, q2⟩ := HR0.out.at_ (show 2 < n by omega)
 injection e2 with e2
 subst e2
 obtain ⟨x2, hX2⟩ : ∃ x, x = l.getD 2 0 := ⟨_, rfl⟩
 rw [← hX2] at hx2 q2
 have q2' : W0.cell? { block := ad.block, off := ad.off + 2 } = some (.int .u8 (x2 : Int)) := by simpa [Addr.add] using q2
 have g4 : IntKind.i64.wrap (x2 : Int) = (x2 : Int) := IntWalk.i64_in _ (by omega)
 have z2 : 2 < n := by omega
 have z3 : (2 : Int) < (n : Int) := by omega
 have z4 : (3 : Int) ≤ (N : Int) := by omega
 have z5 : (N : Int) ≤ (c : Int) := by omega
 have z6 : N ≤ c := by omega
 have z7 : 3 ≤ N := by omega
 have hrf := (HR0.out.take (show N ≤ n by omega)).drop (show 3 ≤ N by omega) z6
 rw [if_neg h3c] at hrf
 have hrf2 := RB.block_ hrf
 have HRT := Lib.hid (HR0.out.take (show N ≤ n by omega))
 have hgb : ad.block < W0.heap.size := by
  obtain ⟨ad', e9, hb9, _⟩ := HR0.out.2.2 (by omega)
  injection e9 with e9
  rw [e9]
  exact hb9
 have HGB := Lib.hid hgb
 have HH3 := Lib.hid (And.intro h3 h4)
 have HX2 := Lib.hid (And.intro hX2 hx2)
 obtain ⟨F, hF⟩ : ∃ F, F = (l.take N).drop 3 := ⟨_, rfl⟩
 rw [← hF] at hrf2
 have HF := Lib.hid hF
 have HLF : Hid (F.length ≤ 20000) := Lib.hid (by rw [hF, List.length_drop, List.length_take]; omega)
 have HRF : Hid (RB W0 (fun b => b = ad.block) (some { block := ad.block, off := ad.off + 3 }) (N - 3) F) := Lib.hid (by simpa [Addr.add] using hrf2)
 clear hr hnc hlo hlen h2 h3 h4 hun hX0 hX1 hN hx0 hx1 hx2 hX2 a0 hgb hrf hrf2 hF
 go_enter Tryz.func19, Tryz.ntmps19
 go_upto_region 3 with fail
 go_quiet (fail)
 have HLq : Hid (Below w.heap.size w (W0.drewN nq)) := Lib.hid ⟨HL0.out.os, HL0.out.tape, HL0.out.output, HL0.out.size, HL0.out.block⟩
 obtain ⟨WQ, hWQ⟩ : ∃ WQ, WQ = W0.drewN nq := ⟨_, rfl⟩
 obtain ⟨WB, hWB⟩ : ∃ WB, (W0.drewN nq).alloc (.cells #[.slice (some { block := ad.block, off := ad.off + 3 }) (N - 3) (c - 3), .bool false] 75) = WB := ⟨_, rfl⟩
 have HBQ : Hid (Blk WB W0.heap.size 75 #[.slice (some { block := ad.block, off := ad.off + 3 }) (N - 3) (c - 3), .bool (!true)]) := Lib.hid (by rw [← hWB]; exact Blk.new (W0.drewN nq) 75 _)
 have HLB : Hid (Below W0.heap.size W0 WB) := Lib.hid (by rw [← hWB]; exact Below.trans (b := W0.drewN nq) ⟨rfl, rfl, rfl, Nat.le_refl _, fun _ _ => rfl⟩ ((Below.refl W0.heap.size (W0.drewN nq)).alloc (Nat.le_refl _) _))
 have HLBs : Hid (WB.heap.size = W0.heap.size + 1) := Lib.hid (by rw [← hWB]; simp)
 have HQ0 : Hid (Qe WB (fun b => b = W0.heap.size) (fun b => b = ad.block) W0.heap.size true F) := Lib.hid ⟨rfl, _, _, _, HBQ.out, (HRF.out.keep (Fr.of_below HLB.out No) (fun _ _ hn => hn)).mono (fun b _ hb => ⟨hb, by have := HGB.out; omega⟩), by omega, by have := HNC.out; have := HH3.out; omega⟩
 have HRR := Lib.hid (rread_any WB _ _ _ F x2 HX2.out.2 HQ0.out (fun b hb => by have := HLBs.out; omega) (fun b hb => by have := HLBs.out; have := HGB.out; omega) HLF.out)
 have q2b : WB.cell? { block := ad.block, off := ad.off + 2 } = some (.int .u8 (x2 : Int)) := by
  have h9 := HLB.out.cell (p := { block := ad.block, off := ad.off + 2 }) HGB.out
  rw [h9]
  exact q2'
 obtain ⟨rd, okd, ld, hD⟩ : ∃ a b d, dR (x2 : Int) true F = (a, b, d) := ⟨_, _, _, rfl⟩
 rw [hD] at HRR
 have HD := Lib.hid hD
 unfold qp at HRR
 clear hD q2' hWQ
 go_wp2_with fail
 with_reducible refine HRR.out.mono ?_
 unfold ReadD
 rintro e w2 ⟨r, rfl, hre, hri, hq2, hf2⟩
 have HRE := Lib.hid hre
 have HRI := Lib.hid hri
 have HQ2 := Lib.hid hq2
 have HF2 := Lib.hid hf2
 obtain ⟨w2b, hw2b⟩ : ∃ w2b, w2.alloc (.cells (rcs r) 31) = w2b := ⟨_, rfl⟩
 have HBR : Hid (Blk w2b w2.heap.size 31 (rcs r)) := Lib.hid (by rw [← hw2b]; exact Blk.new w2 31 _)
 have HLR : Hid (Below w2.heap.size w2 w2b) := Lib.hid (by rw [← hw2b]; exact (Below.refl _ _).alloc (Nat.le_refl _) _)
 simp only [rcs] at hw2b
 have HFB : Hid (Fr W0 w2b (fun b => b = W0.heap.size)) := Lib.hid (((Fr.of_below HLB.out _).trans HF2.out (fun b hb => Or.inl hb)).trans (Fr.of_below HLR.out No) (fun _ hn => hn.elim))
 have HB0b := Lib.hid (HB0.out.keep HFB.out (fun h => by have := HSZ0.out; omega))
 have HRIb := Lib.hid (HRI.out.keep (Fr.of_below HLR.out No) fun _ _ hn => hn)
 have HQ2b := Lib.hid (HQ2.out.keep (Fr.of_below HLR.out No) (fun _ _ hn => hn) (fun _ _ hn => hn))
 have HRTb := Lib.hid ((RB.block_ HRT.out).keep HFB.out (fun b hb he => by have h9 : b = ad.block := hb; have h8 : b = W0.heap.size := he; have := HGB.out; omega))
 have HLb : Hid (Below w.heap.size w w2b) := Lib.hid (HL0.out.trans (HFB.out.below (fun b hb => by have := HSZ0.out; omega) (by have := HSZ0.out; omega)))
 clear hre hri hq2 hf2
 unfold RV.agg
 have HNB : Hid (w2.heap.size ≠ W0.heap.size) := Lib.hid (by have := HLBs.out; have := HF2.out.size; omega)
 have HBRF := Lib.hid ((dR_brief (x2 : Int) true F HLF.out))
 rw [HD.out] at HBRF
 have hend := eqend_any w2b.drew _ _ _ _ _ (HQ2b.out.keep ((Fr.refl w2b No).drew) (fun _ _ hn => hn) (fun _ _ hn => hn))
 unfold qp at hend
 simp only at hend HBRF
 obtain ⟨eb, heb⟩ : ∃ eb, eb = (okd && ld.isEmpty) := ⟨_, rfl⟩
 rw [← heb] at hend
 have HEB := Lib.hid heb
 clear heb
 cases eb with
 | false =>
   simp only [errOf, Bool.false_eq_true, if_false] at hend
   have HEND := Lib.hid hend
   clear hend
   go_upto_region 10 with fail
   refine wp_region_held_drew (S := fun wx => Fr w2b wx (fun b => b = W0.heap.size)) (by kernel_rfl) ((Fr.refl w2b _).drew) (fun hS => ?_)
   refine wpAnyH_take (i := 0) (v := ?_) rfl (by kernel_rfl) (by kernel_rfl) (by kernel_rfl) (fun _ _ _ h => h) (Or.inl ⟨by rfl, ?_⟩) hS ?_
   rotate_left
   ·(intro wq hSw; go_simp; try with_reducible rfl)
   refine wpAnyH_ready (rs := [1]) (by kernel_rfl) (by simp) ?_
   refine AllReadyH.cons rfl (fun K hK => ?_) AllReadyH.nil
   go_simp
   refine HEND.out.mono ?_
   rintro e w3 ⟨rfl, hq3, hf3⟩
   refine hK.out _ _ ?_ (fun hS => ?_)
   ·exact hS.trans hf3 (fun b hb => Or.inl hb)
   clear hK K hq3 hf3
   refine wpAnyH_take (i := 2) (v := ?_) rfl (by kernel_rfl) (by kernel_rfl) (by kernel_rfl) (fun _ _ _ h => h) (Or.inl ⟨by rfl, ?_⟩) hS ?_
   rotate_left
   ·(intro wq hSw; go_simp; try with_reducible rfl)
   simp only [List.getElem_toArray, List.getElem_cons_succ, List.getElem_cons_zero, Act.put, List.setIfInBounds_toArray, List.set_cons_succ, List.set_cons_zero]
   refine wpAnyH_take (i := 3) (v := ?_) rfl (by kernel_rfl) (by kernel_rfl) (by kernel_rfl) (fun _ _ _ h => h) (Or.inl ⟨by rfl, ?_⟩) hS ?_
   rotate_left
   ·(intro wq hSw; go_simp; try with_reducible rfl)
   simp only [List.getElem_toArray, List.getElem_cons_succ, List.getElem_cons_zero, Act.put, List.setIfInBounds_toArray, List.set_cons_succ, List.set_cons_zero]
   refine wpAnyH_take (i := 4) (v := undef) rfl (by kernel_rfl) (by kernel_rfl) (by kernel_rfl) (fun _ _ _ h => h) (Or.inr ⟨by rfl, rfl⟩) hS ?_
   simp only [List.getElem_toArray, List.getElem_cons_succ, List.getElem_cons_zero, Act.put, List.setIfInBounds_toArray, List.set_cons_succ, List.set_cons_zero]
   refine wpAnyH_take (i := 5) (v := undef) rfl (by kernel_rfl) (by kernel_rfl) (by kernel_rfl) (fun _ _ _ h => h) (Or.inr ⟨by rfl, rfl⟩) hS ?_
   simp only [List.getElem_toArray, List.getElem_cons_succ, List.getElem_cons_zero, Act.put, List.setIfInBounds_toArray, List.set_cons_succ, List.set_cons_zero]
   refine wpAnyH_take (i := 6) (v := undef) rfl (by kernel_rfl) (by kernel_rfl) (by kernel_rfl) (fun _ _ _ h => h) (Or.inr ⟨by rfl, rfl⟩) hS ?_
   simp only [List.getElem_toArray, List.getElem_cons_succ, List.getElem_cons_zero, Act.put, List.setIfInBounds_toArray, List.set_cons_succ, List.set_cons_zero]
   refine wpAnyH_take (i := 7) (v := undef) rfl (by kernel_rfl) (by kernel_rfl) (by kernel_rfl) (fun _ _ _ h => h) (Or.inr ⟨by rfl, rfl⟩) hS ?_
   simp only [List.getElem_toArray, List.getElem_cons_succ, List.getElem_cons_zero, Act.put, List.setIfInBounds_toArray, List.set_cons_succ, List.set_cons_zero]
   refine wpAnyH_take (i := 8) (v := undef) rfl (by kernel_rfl) (by kernel_rfl) (by kernel_rfl) (fun _ _ _ h => h) (Or.inr ⟨by rfl, rfl⟩) hS ?_
   simp only [List.getElem_toArray, List.getElem_cons_succ, List.getElem_cons_zero, Act.put, List.setIfInBounds_toArray, List.set_cons_succ, List.set_cons_zero]
   refine wpAnyH_take (i := 9) (v := undef) rfl (by kernel_rfl) (by kernel_rfl) (by kernel_rfl) (fun _ _ _ h => h) (Or.inr ⟨by rfl, rfl⟩) hS ?_
   simp only [List.getElem_toArray, List.getElem_cons_succ, List.getElem_cons_zero, Act.put, List.setIfInBounds_toArray, List.set_cons_succ, List.set_cons_zero]
   refine wpAnyH_take (i := 10) (v := undef) rfl (by kernel_rfl) (by kernel_rfl) (by kernel_rfl) (fun _ _ _ h => h) (Or.inr ⟨by rfl, rfl⟩) hS ?_
   simp only [List.getElem_toArray, List.getElem_cons_succ, List.getElem_cons_zero, Act.put, List.setIfInBounds_toArray, List.set_cons_succ, List.set_cons_zero]
   refine wpAnyH_take (i := 11) (v := undef) rfl (by kernel_rfl) (by kernel_rfl) (by kernel_rfl) (fun _ _ _ h => h) (Or.inr ⟨by rfl, rfl⟩) hS ?_
   simp only [List.getElem_toArray, List.getElem_cons_succ, List.getElem_cons_zero, Act.put, List.setIfInBounds_toArray, List.set_cons_succ, List.set_cons_zero]
   refine wpAnyH_take (i := 12) (v := ?_) rfl (by kernel_rfl) (by kernel_rfl) (by kernel_rfl) (fun _ _ _ h => h) (Or.inl ⟨by rfl, ?_⟩) hS ?_
   rotate_left
   ·(intro wq hSw; go_simp; try with_reducible rfl)
   simp only [List.getElem_toArray, List.getElem_cons_succ, List.getElem_cons_zero, Act.put, List.setIfInBounds_toArray, List.set_cons_succ, List.set_cons_zero]
   refine wpAnyH_done (by kernel_rfl) ?_ _
   have HFE : Hid (Fr w2b w3 (fun b => b = W0.heap.size)) := Lib.hid hS
   clear hS
   have HB0c := Lib.hid (HB0b.out.keep HFE.out (fun h => by have := HSZ0.out; omega))
   have HLc : Hid (Below w.heap.size w w3) := Lib.hid (HLb.out.trans (HFE.out.below (fun b hb => by have := HSZ0.out; omega) HLb.out.size))
   go_wp2_with (first
    | (refine wpList_stB rfl 31 (.tmp 2) (.tmp 58) rfl w.heap.size #[.int .i64 0, .int .u64 0, .int .u32 0, .int .u64 0, .int .u64 0, .int .u32 0, .int .u32 0, .int .i64 0, .int .i64 0, .int .u32 0, .slice none 0 0, .slice none 0 0, .slice none 0 0, .slice none 0 0, .int .u32 0] rfl rfl 31 #[.int .i64 0, .int .u64 0, .int .u32 0, .int .u64 0, .int .u64 0, .int .u32 0, .int .u32 0, .int .i64 0, .int .i64 0, .int .u32 0, .slice none 0 0, .slice none 0 0, .slice none 0 0, .slice none 0 0, .int .u32 0] HB0c.out size31 rfl rfl ?_
       intro G hbG hfG
       have HBG := Lib.hid hbG
       have HFG := Lib.hid hfG
       clear hbG hfG)
    | fail)
   have hld := run_loadVar_row (P := Tryz.prog) G w.heap.size 31 31 #[.int .i64 0, .int .u64 0, .int .u32 0, .int .u64 0, .int .u64 0, .int .u32 0, .int .u32 0, .int .i64 0, .int .i64 0, .int .u32 0, .slice none 0 0, .slice none 0 0, .slice none 0 0, .slice none 0 0, .int .u32 0] (0, 0) _ HBG.out Tryz.underlying31 rfl size31
   refine bodyPost_ret (v := .tuple #[.agg #[.int .i64 0, .int .u64 0, .int .u32 0, .int .u64 0, .int .u64 0, .int .u32 0, .int .u32 0, .int .i64 0, .int .i64 0, .int .u32 0, .slice none 0 0, .slice none 0 0, .slice none 0 0, .slice none 0 0, .int .u32 0], .int .i64 0, .int .i64 5]) (by simp [results, Tryz.results19, asAddr, hld]) rfl ?_
   have hd : decR l = (zE, 0, 5) := by refine decR_refuses (by rw [HLEN.out]; exact HN2.out) (by rw [← HNN.out]; exact HH3.out.1) (by rw [HLEN.out, ← HNN.out]; exact HH3.out.2) ?_; rw [← HNN.out, ← HF.out, ← HX2.out.1, HD.out]; rintro ⟨h1, _⟩; injection h1 with h1 h2; have h3 := HEB.out; rw [h1, h2] at h3; cases h3
   unfold DecQ
   rw [hd]
   exact ⟨rz 0, rfl, rfl, rz0_In _ _, HLc.out.trans (HFG.out.below (fun b hb => by omega) HLc.out.size)⟩
 | true =>
   simp only [errOf, if_true] at hend
   have HEND := Lib.hid hend
   have HOK : Hid (okd = true ∧ ld = []) := Lib.hid (by
    have h3 := HEB.out
    cases okd with
    | false => cases h3
    | true =>
      refine ⟨rfl, ?_⟩
      cases ld with
      | nil => rfl
      | cons a t => cases h3)
   clear hend
   have HBRr : Hid (Brief r) := Lib.hid (Brief.of_e HRIb.out (by rw [HRE.out]; exact HBRF.out.1))
   have HEC := Lib.hid (fun W (h : r.In W All) => rencode_any W r h HBRr.out)
   rw [HRE.out] at HEC
   simp only at HEC
   obtain ⟨x, hx⟩ : ∃ x, x = bytesE rd := ⟨_, rfl⟩
   rw [← hx] at HEC
   have HXX := Lib.hid hx
   unfold RV.agg at HEC
   clear hx
   go_upto_region 10 with fail
   refine wp_region_held_drew (S := fun wx => Fr w2b wx (fun b => b = W0.heap.size)) (by kernel_rfl) ((Fr.refl w2b _).drew) (fun hS => ?_)
   refine wpAnyH_take (i := 0) (v := ?_) rfl (by kernel_rfl) (by kernel_rfl) (by kernel_rfl) (fun _ _ _ h => h) (Or.inl ⟨by rfl, ?_⟩) hS ?_
   rotate_left
   ·(intro wq hSw; go_simp; try with_reducible rfl)
   refine wpAnyH_ready (rs := [1]) (by kernel_rfl) (by simp) ?_
   refine AllReadyH.cons rfl (fun K hK => ?_) AllReadyH.nil
   go_simp
   refine HEND.out.mono ?_
   rintro e w3 ⟨rfl, hq3, hf3⟩
   refine hK.out _ _ ?_ (fun hS => ?_)
   ·exact hS.trans hf3 (fun b hb => Or.inl hb)
   clear hK K hq3 hf3
   refine wpAnyH_take (i := 2) (v := ?_) rfl (by kernel_rfl) (by kernel_rfl) (by kernel_rfl) (fun _ _ _ h => h) (Or.inl ⟨by rfl, ?_⟩) hS ?_
   rotate_left
   ·(intro wq hSw; go_simp; try with_reducible rfl)
   simp only [List.getElem_toArray, List.getElem_cons_succ, List.getElem_cons_zero, Act.put, List.setIfInBounds_toArray, List.set_cons_succ, List.set_cons_zero]
   refine wpAnyH_take (i := 3) (v := ?_) rfl (by kernel_rfl) (by kernel_rfl) (by kernel_rfl) (fun _ _ _ h => h) (Or.inl ⟨by rfl, ?_⟩) hS ?_
   rotate_left
   ·(intro wq hSw; go_simp; try with_reducible rfl)
   simp only [List.getElem_toArray, List.getElem_cons_succ, List.getElem_cons_zero, Act.put, List.setIfInBounds_toArray, List.set_cons_succ, List.set_cons_zero]
   refine wpAnyH_take (i := 4) (v := ?_) rfl (by kernel_rfl) (by kernel_rfl) (by kernel_rfl) (fun _ _ _ h => h) (Or.inl ⟨by rfl, ?_⟩) hS ?_
   rotate_left
   ·(intro wq hSw; obtain ⟨z0, z1, z2, z3, z4, z5, z6, z7, z8, z9, z10, z11, z12, z13, z14⟩ := rcs_cells (HBR.out.keep hSw (fun h => by have := HNB.out; omega)); go_simp; try with_reducible rfl)
   simp only [List.getElem_toArray, List.getElem_cons_succ, List.getElem_cons_zero, Act.put, List.setIfInBounds_toArray, List.set_cons_succ, List.set_cons_zero]
   refine wpAnyH_take (i := 7) (v := ?_) rfl (by kernel_rfl) (by kernel_rfl) (by kernel_rfl) (fun _ _ _ h => h) (Or.inl ⟨by rfl, ?_⟩) hS ?_
   rotate_left
   ·(intro wq hSw; go_simp; try with_reducible rfl)
   simp only [List.getElem_toArray, List.getElem_cons_succ, List.getElem_cons_zero, Act.put, List.setIfInBounds_toArray, List.set_cons_succ, List.set_cons_zero]
   refine wpAnyH_take (i := 8) (v := ?_) rfl (by kernel_rfl) (by kernel_rfl) (by kernel_rfl) (fun _ _ _ h => h) (Or.inl ⟨by rfl, ?_⟩) hS ?_
   rotate_left
   ·(intro wq hSw; go_simp; try with_reducible rfl)
   simp only [List.getElem_toArray, List.getElem_cons_succ, List.getElem_cons_zero, Act.put, List.setIfInBounds_toArray, List.set_cons_succ, List.set_cons_zero]
   refine wpAnyH_take (i := 9) (v := ?_) rfl (by kernel_rfl) (by kernel_rfl) (by kernel_rfl) (fun _ _ _ h => h) (Or.inl ⟨by rfl, ?_⟩) hS ?_
   rotate_left
   ·(intro wq hSw; go_simp; try with_reducible rfl)
   simp only [List.getElem_toArray, List.getElem_cons_succ, List.getElem_cons_zero, Act.put, List.setIfInBounds_toArray, List.set_cons_succ, List.set_cons_zero]
   refine wpAnyH_take (i := 10) (v := ?_) rfl (by kernel_rfl) (by kernel_rfl) (by kernel_rfl) (fun _ _ _ h => h) (Or.inl ⟨by rfl, ?_⟩) hS ?_
   rotate_left
   ·(intro wq hSw; have hq := run_conv _ (some ad) N c (l.take N) wq (HRTb.out.keep hSw (fun b hb he => by have h9 : b = ad.block := hb; have h8 : b = W0.heap.size := he; have := HGB.out; omega)); go_simp; try with_reducible rfl)
   simp only [List.getElem_toArray, List.getElem_cons_succ, List.getElem_cons_zero, Act.put, List.setIfInBounds_toArray, List.set_cons_succ, List.set_cons_zero]
   refine wpAnyH_ready (rs := [5]) (by kernel_rfl) (by simp) ?_
   refine AllReadyH.cons rfl (fun K hK => ?_) AllReadyH.nil
   go_simp
   refine (HEC.out _ ?_).mono ?_
   ·exact ((HRIb.out.mono (T' := fun b => WB.heap.size ≤ b) (fun b _ hb => hb)).keep hS (fun b hb he => by have h9 : WB.heap.size ≤ b := hb; have h8 : b = W0.heap.size := he; have := HLBs.out; omega)).mono (fun _ _ _ => trivial)
   unfold New
   rintro e w4 ⟨v5, rfl, ho5, hb5⟩
   obtain ⟨A5, c5, rfl, _, _, hr5⟩ := ho5.reads
   have hcv5 := run_conv _ A5 x.length c5 x w4 hr5
   have HRL := Lib.hid hr5.lt
   refine hK.out _ _ ?_ (fun hS => ?_)
   ·exact hS.trans (Fr.of_below hb5 No) fun _ hn => hn.elim
   clear hK K hb5 ho5 hr5
   by_cases heq : x = l.take N
   ·have hsq : seq x (l.take N) = true := by rw [heq]; unfold seq; simp
    have HEQ := Lib.hid heq
    clear heq
    refine wpAnyH_ready (rs := [6]) (by kernel_rfl) (by simp) ?_
    refine AllReadyH.cons rfl (fun K hK => ?_) AllReadyH.nil
    go_simp
    refine hK.out _ _ hS (fun hS => ?_)
    clear hK K hcv5
    refine wpAnyH_take (i := 11) (v := ?_) rfl (by kernel_rfl) (by kernel_rfl) (by kernel_rfl) (fun _ _ _ h => h) (Or.inl ⟨by rfl, ?_⟩) hS ?_
    rotate_left
    ·(intro wq hSw; go_simp; try with_reducible rfl)
    simp only [List.getElem_toArray, List.getElem_cons_succ, List.getElem_cons_zero, Act.put, List.setIfInBounds_toArray, List.set_cons_succ, List.set_cons_zero]
    refine wpAnyH_take (i := 12) (v := ?_) rfl (by kernel_rfl) (by kernel_rfl) (by kernel_rfl) (fun _ _ _ h => h) (Or.inl ⟨by rfl, ?_⟩) hS ?_
    rotate_left
    ·(intro wq hSw; go_simp; try with_reducible rfl)
    simp only [List.getElem_toArray, List.getElem_cons_succ, List.getElem_cons_zero, Act.put, List.setIfInBounds_toArray, List.set_cons_succ, List.set_cons_zero]
    refine wpAnyH_done (by kernel_rfl) ?_ _
    have HFE : Hid (Fr w2b w4 (fun b => b = W0.heap.size)) := Lib.hid hS
    clear hS
    have HB0c := Lib.hid (HB0b.out.keep HFE.out (fun h => by have := HSZ0.out; omega))
    have HLc : Hid (Below w.heap.size w w4) := Lib.hid (HLb.out.trans (HFE.out.below (fun b hb => by have := HSZ0.out; omega) HLb.out.size))
    have HBRc := Lib.hid (HBR.out.keep HFE.out (fun h => by have := HNB.out; omega))
    have HRIc := Lib.hid ((HRIb.out.mono (T' := fun b => WB.heap.size ≤ b) (fun b _ hb => hb)).keep HFE.out (fun b hb he => by have h9 : WB.heap.size ≤ b := hb; have h8 : b = W0.heap.size := he; have := HLBs.out; omega))
    have HBRc2 : Hid (Blk w4 w2.heap.size 31 #[.int .i64 r.k, .int .u64 (r.s : Int), .int .u32 (r.t : Int), .int .u64 (r.a : Int), .int .u64 (r.b : Int), .int .u32 (r.pg : Int), .int .u32 (r.rt : Int), .int .i64 r.o.k, .int .i64 r.o.s, .int .u32 (r.o.t : Int), .slice r.o.A r.o.m r.o.c, .slice r.iA r.im r.ic, .slice r.lA r.lm r.lc, .slice r.dA r.dm r.dc, .int .u32 (r.nx : Int)]) := Lib.hid HBRc.out
    go_wp2_with (first
     | (refine wpList_ldB rfl 31 (.tmp 7) rfl w2.heap.size rfl 31 #[.int .i64 r.k, .int .u64 (r.s : Int), .int .u32 (r.t : Int), .int .u64 (r.a : Int), .int .u64 (r.b : Int), .int .u32 (r.pg : Int), .int .u32 (r.rt : Int), .int .i64 r.o.k, .int .i64 r.o.s, .int .u32 (r.o.t : Int), .slice r.o.A r.o.m r.o.c, .slice r.iA r.im r.ic, .slice r.lA r.lm r.lc, .slice r.dA r.dm r.dc, .int .u32 (r.nx : Int)] _ HBRc2.out Tryz.underlying31 rfl size31 ?_)
     | (refine wpList_stB rfl 31 (.tmp 2) (.tmp 59) rfl w.heap.size #[.int .i64 r.k, .int .u64 (r.s : Int), .int .u32 (r.t : Int), .int .u64 (r.a : Int), .int .u64 (r.b : Int), .int .u32 (r.pg : Int), .int .u32 (r.rt : Int), .int .i64 r.o.k, .int .i64 r.o.s, .int .u32 (r.o.t : Int), .slice r.o.A r.o.m r.o.c, .slice r.iA r.im r.ic, .slice r.lA r.lm r.lc, .slice r.dA r.dm r.dc, .int .u32 (r.nx : Int)] rfl rfl 31 #[.int .i64 0, .int .u64 0, .int .u32 0, .int .u64 0, .int .u64 0, .int .u32 0, .int .u32 0, .int .i64 0, .int .i64 0, .int .u32 0, .slice none 0 0, .slice none 0 0, .slice none 0 0, .slice none 0 0, .int .u32 0] HB0c.out size31 rfl rfl ?_
        intro G hbG hfG
        have HBG := Lib.hid hbG
        have HFG := Lib.hid hfG
        clear hbG hfG)
     | fail)
    have hld := run_loadVar_row (P := Tryz.prog) G w.heap.size 31 31 #[.int .i64 r.k, .int .u64 (r.s : Int), .int .u32 (r.t : Int), .int .u64 (r.a : Int), .int .u64 (r.b : Int), .int .u32 (r.pg : Int), .int .u32 (r.rt : Int), .int .i64 r.o.k, .int .i64 r.o.s, .int .u32 (r.o.t : Int), .slice r.o.A r.o.m r.o.c, .slice r.iA r.im r.ic, .slice r.lA r.lm r.lc, .slice r.dA r.dm r.dc, .int .u32 (r.nx : Int)] (0, 0) _ HBG.out Tryz.underlying31 rfl size31
    refine bodyPost_ret (v := .tuple #[.agg #[.int .i64 r.k, .int .u64 (r.s : Int), .int .u32 (r.t : Int), .int .u64 (r.a : Int), .int .u64 (r.b : Int), .int .u32 (r.pg : Int), .int .u32 (r.rt : Int), .int .i64 r.o.k, .int .i64 r.o.s, .int .u32 (r.o.t : Int), .slice r.o.A r.o.m r.o.c, .slice r.iA r.im r.ic, .slice r.lA r.lm r.lc, .slice r.dA r.dm r.dc, .int .u32 (r.nx : Int)], .int .i64 (N : Int), .int .i64 0]) (by simp [results, Tryz.results19, asAddr, hld]) rfl ?_
    have hin : rd.In := by have h9 := HRIb.out.e; rw [HRE.out] at h9; exact h9
    have hd : decR l = (rd, N, 0) := by
     have h9 := decR_accepts (l := l) (rd := rd) (by rw [HLEN.out]; exact HN2.out) (by rw [← HNN.out]; exact HH3.out.1) (by rw [HLEN.out, ← HNN.out]; exact HH3.out.2) hin HBRF.out.2.1 (by rw [← HNN.out, ← HXX.out]; exact HEQ.out)
     rw [← HNN.out] at h9
     exact h9
    unfold DecQ
    rw [hd]
    exact ⟨r, rfl, HRE.out, (HRIc.out.keep HFG.out (fun b hb he => by have h9 : WB.heap.size ≤ b := hb; have h8 : b = w.heap.size := he; have := HLBs.out; have := HSZ0.out; omega)).mono (fun _ _ _ => trivial), HLc.out.trans (HFG.out.below (fun b hb => by omega) HLc.out.size)⟩
   ·have hsq : seq x (l.take N) = false := by
     rw [seq_iff HRL.out HRTb.out.lt]
     exact decide_eq_false heq
    have HEQ := Lib.hid heq
    clear heq
    refine wpAnyH_ready (rs := [6]) (by kernel_rfl) (by simp) ?_
    refine AllReadyH.cons rfl (fun K hK => ?_) AllReadyH.nil
    go_simp
    refine hK.out _ _ hS (fun hS => ?_)
    clear hK K hcv5
    refine wpAnyH_take (i := 11) (v := ?_) rfl (by kernel_rfl) (by kernel_rfl) (by kernel_rfl) (fun _ _ _ h => h) (Or.inl ⟨by rfl, ?_⟩) hS ?_
    rotate_left
    ·(intro wq hSw; go_simp; try with_reducible rfl)
    simp only [List.getElem_toArray, List.getElem_cons_succ, List.getElem_cons_zero, Act.put, List.setIfInBounds_toArray, List.set_cons_succ, List.set_cons_zero]
    refine wpAnyH_take (i := 12) (v := ?_) rfl (by kernel_rfl) (by kernel_rfl) (by kernel_rfl) (fun _ _ _ h => h) (Or.inl ⟨by rfl, ?_⟩) hS ?_
    rotate_left
    ·(intro wq hSw; go_simp; try with_reducible rfl)
    simp only [List.getElem_toArray, List.getElem_cons_succ, List.getElem_cons_zero, Act.put, List.setIfInBounds_toArray, List.set_cons_succ, List.set_cons_zero]
    refine wpAnyH_done (by kernel_rfl) ?_ _
    have HFE : Hid (Fr w2b w4 (fun b => b = W0.heap.size)) := Lib.hid hS
    clear hS
    have HB0c := Lib.hid (HB0b.out.keep HFE.out (fun h => by have := HSZ0.out; omega))
    have HLc : Hid (Below w.heap.size w w4) := Lib.hid (HLb.out.trans (HFE.out.below (fun b hb => by have := HSZ0.out; omega) HLb.out.size))
    go_wp2_with (first
     | (refine wpList_stB rfl 31 (.tmp 2) (.tmp 58) rfl w.heap.size #[.int .i64 0, .int .u64 0, .int .u32 0, .int .u64 0, .int .u64 0, .int .u32 0, .int .u32 0, .int .i64 0, .int .i64 0, .int .u32 0, .slice none 0 0, .slice none 0 0, .slice none 0 0, .slice none 0 0, .int .u32 0] rfl rfl 31 #[.int .i64 0, .int .u64 0, .int .u32 0, .int .u64 0, .int .u64 0, .int .u32 0, .int .u32 0, .int .i64 0, .int .i64 0, .int .u32 0, .slice none 0 0, .slice none 0 0, .slice none 0 0, .slice none 0 0, .int .u32 0] HB0c.out size31 rfl rfl ?_
        intro G hbG hfG
        have HBG := Lib.hid hbG
        have HFG := Lib.hid hfG
        clear hbG hfG)
     | fail)
    have hld := run_loadVar_row (P := Tryz.prog) G w.heap.size 31 31 #[.int .i64 0, .int .u64 0, .int .u32 0, .int .u64 0, .int .u64 0, .int .u32 0, .int .u32 0, .int .i64 0, .int .i64 0, .int .u32 0, .slice none 0 0, .slice none 0 0, .slice none 0 0, .slice none 0 0, .int .u32 0] (0, 0) _ HBG.out Tryz.underlying31 rfl size31
    refine bodyPost_ret (v := .tuple #[.agg #[.int .i64 0, .int .u64 0, .int .u32 0, .int .u64 0, .int .u64 0, .int .u32 0, .int .u32 0, .int .i64 0, .int .i64 0, .int .u32 0, .slice none 0 0, .slice none 0 0, .slice none 0 0, .slice none 0 0, .int .u32 0], .int .i64 0, .int .i64 5]) (by simp [results, Tryz.results19, asAddr, hld]) rfl ?_
    have hd : decR l = (zE, 0, 5) := by refine decR_refuses (by rw [HLEN.out]; exact HN2.out) (by rw [← HNN.out]; exact HH3.out.1) (by rw [HLEN.out, ← HNN.out]; exact HH3.out.2) ?_; rw [← HNN.out, ← HF.out, ← HX2.out.1, HD.out]; rintro ⟨_, h2⟩; exact HEQ.out (by rw [HXX.out]; exact h2)
    unfold DecQ
    rw [hd]
    exact ⟨rz 0, rfl, rfl, rz0_In _ _, HLc.out.trans (HFG.out.below (fun b hb => by omega) HLc.out.size)⟩
attribute [local go_sem high] run_neqL run_eqL in
set_option maxHeartbeats 16000000 in
theorem rdec_s4a (w : World) (A : Option Addr) (n c : Nat) (l : List Nat) (hr : RB w All A n l) (hnc : n ≤ c) (hlo : n ≤ 140737488351232) (h2 : 2 ≤ n) (h3 : 3 ≤ Cd.unfix (l.take 2) ∧ Cd.unfix (l.take 2) ≤ 16384) (h4 : Cd.unfix (l.take 2) ≤ n) (h3c : c = 3) : Calls Tryz.prog 19 #[.slice A n c] w (DecQ w l) := by
 have hlen : l.length = n := hr.len
 have HR := Lib.hid hr
 have HLEN := Lib.hid hlen
 have HNC := Lib.hid (And.intro hnc hlo)
 obtain ⟨W0, hW0⟩ : ∃ W0, w.alloc (.cells #[.int .i64 0, .int .u64 0, .int .u32 0, .int .u64 0, .int .u64 0, .int .u32 0, .int .u32 0, .int .i64 0, .int .i64 0, .int .u32 0, .slice none 0 0, .slice none 0 0, .slice none 0 0, .slice none 0 0, .int .u32 0] 31) = W0 := ⟨_, rfl⟩
 have HB0 : Hid (Blk W0 w.heap.size 31 #[.int .i64 0, .int .u64 0, .int .u32 0, .int .u64 0, .int .u64 0, .int .u32 0, .int .u32 0, .int .i64 0, .int .i64 0, .int .u32 0, .slice none 0 0, .slice none 0 0, .slice none 0 0, .slice none 0 0, .int .u32 0]) := Lib.hid (by rw [← hW0]; exact Blk.new w 31 _)
 have HL0 : Hid (Below w.heap.size w W0) := Lib.hid (by rw [← hW0]; exact (Below.refl _ _).alloc (Nat.le_refl _) _)
 have HSZ0 : Hid (W0.heap.size = w.heap.size + 1) := Lib.hid (by rw [← hW0]; simp)
 have HR0 := Lib.hid (hr.keep (Fr.of_below HL0.out No) fun _ _ hn => hn)
 have d1 : decide ((n : Int) < 2) = false := decide_eq_false (by omega)
 have d2 : decide (n < 2) = false := decide_eq_false (by omega)
 obtain ⟨ad, rfl, hx0, q0⟩ := HR0.out.at_ (show 0 < n by omega)
 obtain ⟨_, e1, hx1, q1⟩ := HR0.out.at_ (show 1 < n by omega)
 injection e1 with e1
 subst e1
 have hun := unfix2 (l := l) (by omega)
 obtain ⟨x0, hX0⟩ : ∃ x, x = l.getD 0 0 := ⟨_, rfl⟩
 obtain ⟨x1, hX1⟩ : ∃ x, x = l.getD 1 0 := ⟨_, rfl⟩
 obtain ⟨N, hN⟩ : ∃ N, N = Cd.unfix (l.take 2) := ⟨_, rfl⟩
 rw [← hX0] at hx0 q0 hun
 rw [← hX1] at hx1 q1 hun
 rw [← hN] at hun
 have g0 : IntKind.i64.wrap (x0 : Int) = (x0 : Int) := IntWalk.i64_in _ (by omega)
 have g1 : IntKind.i64.wrap (x1 : Int) = (x1 : Int) := IntWalk.i64_in _ (by omega)
 have g2 : IntKind.i64.wrap (256 * (x1 : Int)) = 256 * (x1 : Int) := IntWalk.i64_in _ (by omega)
 have g3 : IntKind.i64.wrap ((x0 : Int) + 256 * (x1 : Int)) = (N : Int) := by rw [IntWalk.i64_in _ (by omega)]; omega
 have a0 : ad.add 0 = ad := by simp [Addr.add]
 have q0' : W0.cell? ad = some (.int .u8 (x0 : Int)) := by rw [a0] at q0; exact q0
 have q1' : W0.cell? { block := ad.block, off := ad.off + 1 } = some (.int .u8 (x1 : Int)) := by simpa [Addr.add] using q1
 have k0 : decide (0 < n) = true := decide_eq_true (by omega)
 have k1 : decide (1 < n) = true := decide_eq_true (by omega)
 have k2 : (1 : Int) < (n : Int) := by omega
 have k3 : (0 : Int) < (n : Int) := by omega
 have z0 : 0 < n := by omega
 have z1 : 1 < n := by omega
 have HNN := Lib.hid hN
 have HN2 : Hid (2 ≤ n) := Lib.hid (by omega)
 rw [← hN] at h3 h4
 obtain rfl : c = 3 := h3c
 obtain rfl : n = 3 := by omega
 obtain rfl : N = 3 := by omega
 have d3 : decide (((3 : Nat) : Int) < 3) = false := decide_eq_false (by omega)
 have d4 : decide (3 < 3) = false := decide_eq_false (by omega)
 have d5 : decide (((3 : Nat) : Int) > 16384) = false := decide_eq_false (by omega)
 have d6 : decide (16384 < 3) = false := decide_eq_false (by omega)
 have d7 : decide ((3 : Int) < (3 : Int)) = false := decide_eq_false (by omega)
 have d8 : decide (3 < 3) = false := decide_eq_false (by omega)
 obtain ⟨_, e2, hx2, q2⟩ := HR0.out.at_ (show 2 < 3 by omega)
 injection e2 with e2
 subst e2
 obtain ⟨x2, hX2⟩ : ∃ x, x = l.getD 2 0 := ⟨_, rfl⟩
 rw [← hX2] at hx2 q2
 have q2' : W0.cell? { block := ad.block, off := ad.off + 2 } = some (.int .u8 (x2 : Int)) := by simpa [Addr.add] using q2
 have g4 : IntKind.i64.wrap (x2 : Int) = (x2 : Int) := IntWalk.i64_in _ (by omega)
 have z2 : 2 < 3 := by omega
 have z3 : (2 : Int) < (3 : Int) := by omega
 have z4 : (3 : Int) ≤ (3 : Int) := by omega
 have z5 : (3 : Int) ≤ (3 : Int) := by omega
 have z6 : 3 ≤ 3 := by omega
 have z7 : 3 ≤ 3 := by omega
 have hrf := (HR0.out.take (show 3 ≤ 3 by omega)).drop (show 3 ≤ 3 by omega) z6
 rw [if_pos rfl] at hrf
 have hrf2 := RB.block_ hrf
 have HRT := Lib.hid (HR0.out.take (show 3 ≤ 3 by omega))
 have hgb : ad.block < W0.heap.size := by
  obtain ⟨ad', e9, hb9, _⟩ := HR0.out.2.2 (by omega)
  injection e9 with e9
  rw [e9]
  exact hb9
 have HGB := Lib.hid hgb
 have HH3 := Lib.hid (And.intro h3 h4)
 have HX2 := Lib.hid (And.intro hX2 hx2)
 obtain ⟨F, hF⟩ : ∃ F, F = (l.take 3).drop 3 := ⟨_, rfl⟩
 rw [← hF] at hrf2
 have HF := Lib.hid hF
 have HLF : Hid (F.length ≤ 20000) := Lib.hid (by rw [hF, List.length_drop, List.length_take]; omega)
 have HRF : Hid (RB W0 (fun b => b = ad.block) (some ad) (3 - 3) F) := Lib.hid (by exact hrf2)
 clear hr hnc hlo hlen h2 h3 h4 hun hX0 hX1 hN hx0 hx1 hx2 hX2 a0 hgb hrf hrf2 hF
 go_enter Tryz.func19, Tryz.ntmps19
 go_upto_region 3 with fail
 go_quiet (fail)
 have HLq : Hid (Below w.heap.size w (W0.drewN nq)) := Lib.hid ⟨HL0.out.os, HL0.out.tape, HL0.out.output, HL0.out.size, HL0.out.block⟩
 obtain ⟨WQ, hWQ⟩ : ∃ WQ, WQ = W0.drewN nq := ⟨_, rfl⟩
 obtain ⟨WB, hWB⟩ : ∃ WB, (W0.drewN nq).alloc (.cells #[.slice (some ad) 0 0, .bool false] 75) = WB := ⟨_, rfl⟩
 have HBQ : Hid (Blk WB W0.heap.size 75 #[.slice (some ad) 0 0, .bool (!true)]) := Lib.hid (by rw [← hWB]; exact Blk.new (W0.drewN nq) 75 _)
 have HLB : Hid (Below W0.heap.size W0 WB) := Lib.hid (by rw [← hWB]; exact Below.trans (b := W0.drewN nq) ⟨rfl, rfl, rfl, Nat.le_refl _, fun _ _ => rfl⟩ ((Below.refl W0.heap.size (W0.drewN nq)).alloc (Nat.le_refl _) _))
 have HLBs : Hid (WB.heap.size = W0.heap.size + 1) := Lib.hid (by rw [← hWB]; simp)
 have HQ0 : Hid (Qe WB (fun b => b = W0.heap.size) (fun b => b = ad.block) W0.heap.size true F) := Lib.hid ⟨rfl, _, _, _, HBQ.out, (HRF.out.keep (Fr.of_below HLB.out No) (fun _ _ hn => hn)).mono (fun b _ hb => ⟨hb, by have := HGB.out; omega⟩), by omega, by have := HNC.out; have := HH3.out; omega⟩
 have HRR := Lib.hid (rread_any WB _ _ _ F x2 HX2.out.2 HQ0.out (fun b hb => by have := HLBs.out; omega) (fun b hb => by have := HLBs.out; have := HGB.out; omega) HLF.out)
 have q2b : WB.cell? { block := ad.block, off := ad.off + 2 } = some (.int .u8 (x2 : Int)) := by
  have h9 := HLB.out.cell (p := { block := ad.block, off := ad.off + 2 }) HGB.out
  rw [h9]
  exact q2'
 obtain ⟨rd, okd, ld, hD⟩ : ∃ a b d, dR (x2 : Int) true F = (a, b, d) := ⟨_, _, _, rfl⟩
 rw [hD] at HRR
 have HD := Lib.hid hD
 unfold qp at HRR
 clear hD q2' hWQ
 go_wp2_with fail
 with_reducible refine HRR.out.mono ?_
 unfold ReadD
 rintro e w2 ⟨r, rfl, hre, hri, hq2, hf2⟩
 have HRE := Lib.hid hre
 have HRI := Lib.hid hri
 have HQ2 := Lib.hid hq2
 have HF2 := Lib.hid hf2
 obtain ⟨w2b, hw2b⟩ : ∃ w2b, w2.alloc (.cells (rcs r) 31) = w2b := ⟨_, rfl⟩
 have HBR : Hid (Blk w2b w2.heap.size 31 (rcs r)) := Lib.hid (by rw [← hw2b]; exact Blk.new w2 31 _)
 have HLR : Hid (Below w2.heap.size w2 w2b) := Lib.hid (by rw [← hw2b]; exact (Below.refl _ _).alloc (Nat.le_refl _) _)
 simp only [rcs] at hw2b
 have HFB : Hid (Fr W0 w2b (fun b => b = W0.heap.size)) := Lib.hid (((Fr.of_below HLB.out _).trans HF2.out (fun b hb => Or.inl hb)).trans (Fr.of_below HLR.out No) (fun _ hn => hn.elim))
 have HB0b := Lib.hid (HB0.out.keep HFB.out (fun h => by have := HSZ0.out; omega))
 have HRIb := Lib.hid (HRI.out.keep (Fr.of_below HLR.out No) fun _ _ hn => hn)
 have HQ2b := Lib.hid (HQ2.out.keep (Fr.of_below HLR.out No) (fun _ _ hn => hn) (fun _ _ hn => hn))
 have HRTb := Lib.hid ((RB.block_ HRT.out).keep HFB.out (fun b hb he => by have h9 : b = ad.block := hb; have h8 : b = W0.heap.size := he; have := HGB.out; omega))
 have HLb : Hid (Below w.heap.size w w2b) := Lib.hid (HL0.out.trans (HFB.out.below (fun b hb => by have := HSZ0.out; omega) (by have := HSZ0.out; omega)))
 clear hre hri hq2 hf2
 unfold RV.agg
 have HNB : Hid (w2.heap.size ≠ W0.heap.size) := Lib.hid (by have := HLBs.out; have := HF2.out.size; omega)
 have HBRF := Lib.hid ((dR_brief (x2 : Int) true F HLF.out))
 rw [HD.out] at HBRF
 have hend := eqend_any w2b.drew _ _ _ _ _ (HQ2b.out.keep ((Fr.refl w2b No).drew) (fun _ _ hn => hn) (fun _ _ hn => hn))
 unfold qp at hend
 simp only at hend HBRF
 obtain ⟨eb, heb⟩ : ∃ eb, eb = (okd && ld.isEmpty) := ⟨_, rfl⟩
 rw [← heb] at hend
 have HEB := Lib.hid heb
 clear heb
 cases eb with
 | false =>
   simp only [errOf, Bool.false_eq_true, if_false] at hend
   have HEND := Lib.hid hend
   clear hend
   go_upto_region 10 with fail
   refine wp_region_held_drew (S := fun wx => Fr w2b wx (fun b => b = W0.heap.size)) (by kernel_rfl) ((Fr.refl w2b _).drew) (fun hS => ?_)
   refine wpAnyH_take (i := 0) (v := ?_) rfl (by kernel_rfl) (by kernel_rfl) (by kernel_rfl) (fun _ _ _ h => h) (Or.inl ⟨by rfl, ?_⟩) hS ?_
   rotate_left
   ·(intro wq hSw; go_simp; try with_reducible rfl)
   refine wpAnyH_ready (rs := [1]) (by kernel_rfl) (by simp) ?_
   refine AllReadyH.cons rfl (fun K hK => ?_) AllReadyH.nil
   go_simp
   refine HEND.out.mono ?_
   rintro e w3 ⟨rfl, hq3, hf3⟩
   refine hK.out _ _ ?_ (fun hS => ?_)
   ·exact hS.trans hf3 (fun b hb => Or.inl hb)
   clear hK K hq3 hf3
   refine wpAnyH_take (i := 2) (v := ?_) rfl (by kernel_rfl) (by kernel_rfl) (by kernel_rfl) (fun _ _ _ h => h) (Or.inl ⟨by rfl, ?_⟩) hS ?_
   rotate_left
   ·(intro wq hSw; go_simp; try with_reducible rfl)
   simp only [List.getElem_toArray, List.getElem_cons_succ, List.getElem_cons_zero, Act.put, List.setIfInBounds_toArray, List.set_cons_succ, List.set_cons_zero]
   refine wpAnyH_take (i := 3) (v := ?_) rfl (by kernel_rfl) (by kernel_rfl) (by kernel_rfl) (fun _ _ _ h => h) (Or.inl ⟨by rfl, ?_⟩) hS ?_
   rotate_left
   ·(intro wq hSw; go_simp; try with_reducible rfl)
   simp only [List.getElem_toArray, List.getElem_cons_succ, List.getElem_cons_zero, Act.put, List.setIfInBounds_toArray, List.set_cons_succ, List.set_cons_zero]
   refine wpAnyH_take (i := 4) (v := undef) rfl (by kernel_rfl) (by kernel_rfl) (by kernel_rfl) (fun _ _ _ h => h) (Or.inr ⟨by rfl, rfl⟩) hS ?_
   simp only [List.getElem_toArray, List.getElem_cons_succ, List.getElem_cons_zero, Act.put, List.setIfInBounds_toArray, List.set_cons_succ, List.set_cons_zero]
   refine wpAnyH_take (i := 5) (v := undef) rfl (by kernel_rfl) (by kernel_rfl) (by kernel_rfl) (fun _ _ _ h => h) (Or.inr ⟨by rfl, rfl⟩) hS ?_
   simp only [List.getElem_toArray, List.getElem_cons_succ, List.getElem_cons_zero, Act.put, List.setIfInBounds_toArray, List.set_cons_succ, List.set_cons_zero]
   refine wpAnyH_take (i := 6) (v := undef) rfl (by kernel_rfl) (by kernel_rfl) (by kernel_rfl) (fun _ _ _ h => h) (Or.inr ⟨by rfl, rfl⟩) hS ?_
   simp only [List.getElem_toArray, List.getElem_cons_succ, List.getElem_cons_zero, Act.put, List.setIfInBounds_toArray, List.set_cons_succ, List.set_cons_zero]
   refine wpAnyH_take (i := 7) (v := undef) rfl (by kernel_rfl) (by kernel_rfl) (by kernel_rfl) (fun _ _ _ h => h) (Or.inr ⟨by rfl, rfl⟩) hS ?_
   simp only [List.getElem_toArray, List.getElem_cons_succ, List.getElem_cons_zero, Act.put, List.setIfInBounds_toArray, List.set_cons_succ, List.set_cons_zero]
   refine wpAnyH_take (i := 8) (v := undef) rfl (by kernel_rfl) (by kernel_rfl) (by kernel_rfl) (fun _ _ _ h => h) (Or.inr ⟨by rfl, rfl⟩) hS ?_
   simp only [List.getElem_toArray, List.getElem_cons_succ, List.getElem_cons_zero, Act.put, List.setIfInBounds_toArray, List.set_cons_succ, List.set_cons_zero]
   refine wpAnyH_take (i := 9) (v := undef) rfl (by kernel_rfl) (by kernel_rfl) (by kernel_rfl) (fun _ _ _ h => h) (Or.inr ⟨by rfl, rfl⟩) hS ?_
   simp only [List.getElem_toArray, List.getElem_cons_succ, List.getElem_cons_zero, Act.put, List.setIfInBounds_toArray, List.set_cons_succ, List.set_cons_zero]
   refine wpAnyH_take (i := 10) (v := undef) rfl (by kernel_rfl) (by kernel_rfl) (by kernel_rfl) (fun _ _ _ h => h) (Or.inr ⟨by rfl, rfl⟩) hS ?_
   simp only [List.getElem_toArray, List.getElem_cons_succ, List.getElem_cons_zero, Act.put, List.setIfInBounds_toArray, List.set_cons_succ, List.set_cons_zero]
   refine wpAnyH_take (i := 11) (v := undef) rfl (by kernel_rfl) (by kernel_rfl) (by kernel_rfl) (fun _ _ _ h => h) (Or.inr ⟨by rfl, rfl⟩) hS ?_
   simp only [List.getElem_toArray, List.getElem_cons_succ, List.getElem_cons_zero, Act.put, List.setIfInBounds_toArray, List.set_cons_succ, List.set_cons_zero]
   refine wpAnyH_take (i := 12) (v := ?_) rfl (by kernel_rfl) (by kernel_rfl) (by kernel_rfl) (fun _ _ _ h => h) (Or.inl ⟨by rfl, ?_⟩) hS ?_
   rotate_left
   ·(intro wq hSw; go_simp; try with_reducible rfl)
   simp only [List.getElem_toArray, List.getElem_cons_succ, List.getElem_cons_zero, Act.put, List.setIfInBounds_toArray, List.set_cons_succ, List.set_cons_zero]
   refine wpAnyH_done (by kernel_rfl) ?_ _
   have HFE : Hid (Fr w2b w3 (fun b => b = W0.heap.size)) := Lib.hid hS
   clear hS
   have HB0c := Lib.hid (HB0b.out.keep HFE.out (fun h => by have := HSZ0.out; omega))
   have HLc : Hid (Below w.heap.size w w3) := Lib.hid (HLb.out.trans (HFE.out.below (fun b hb => by have := HSZ0.out; omega) HLb.out.size))
   go_wp2_with (first
    | (refine wpList_stB rfl 31 (.tmp 2) (.tmp 58) rfl w.heap.size #[.int .i64 0, .int .u64 0, .int .u32 0, .int .u64 0, .int .u64 0, .int .u32 0, .int .u32 0, .int .i64 0, .int .i64 0, .int .u32 0, .slice none 0 0, .slice none 0 0, .slice none 0 0, .slice none 0 0, .int .u32 0] rfl rfl 31 #[.int .i64 0, .int .u64 0, .int .u32 0, .int .u64 0, .int .u64 0, .int .u32 0, .int .u32 0, .int .i64 0, .int .i64 0, .int .u32 0, .slice none 0 0, .slice none 0 0, .slice none 0 0, .slice none 0 0, .int .u32 0] HB0c.out size31 rfl rfl ?_
       intro G hbG hfG
       have HBG := Lib.hid hbG
       have HFG := Lib.hid hfG
       clear hbG hfG)
    | fail)
   have hld := run_loadVar_row (P := Tryz.prog) G w.heap.size 31 31 #[.int .i64 0, .int .u64 0, .int .u32 0, .int .u64 0, .int .u64 0, .int .u32 0, .int .u32 0, .int .i64 0, .int .i64 0, .int .u32 0, .slice none 0 0, .slice none 0 0, .slice none 0 0, .slice none 0 0, .int .u32 0] (0, 0) _ HBG.out Tryz.underlying31 rfl size31
   refine bodyPost_ret (v := .tuple #[.agg #[.int .i64 0, .int .u64 0, .int .u32 0, .int .u64 0, .int .u64 0, .int .u32 0, .int .u32 0, .int .i64 0, .int .i64 0, .int .u32 0, .slice none 0 0, .slice none 0 0, .slice none 0 0, .slice none 0 0, .int .u32 0], .int .i64 0, .int .i64 5]) (by simp [results, Tryz.results19, asAddr, hld]) rfl ?_
   have hd : decR l = (zE, 0, 5) := by refine decR_refuses (by rw [HLEN.out]; exact HN2.out) (by rw [← HNN.out]; exact HH3.out.1) (by rw [HLEN.out, ← HNN.out]; exact HH3.out.2) ?_; rw [← HNN.out, ← HF.out, ← HX2.out.1, HD.out]; rintro ⟨h1, _⟩; injection h1 with h1 h2; have h3 := HEB.out; rw [h1, h2] at h3; cases h3
   unfold DecQ
   rw [hd]
   exact ⟨rz 0, rfl, rfl, rz0_In _ _, HLc.out.trans (HFG.out.below (fun b hb => by omega) HLc.out.size)⟩
 | true =>
   simp only [errOf, if_true] at hend
   have HEND := Lib.hid hend
   have HOK : Hid (okd = true ∧ ld = []) := Lib.hid (by
    have h3 := HEB.out
    cases okd with
    | false => cases h3
    | true =>
      refine ⟨rfl, ?_⟩
      cases ld with
      | nil => rfl
      | cons a t => cases h3)
   clear hend
   have HBRr : Hid (Brief r) := Lib.hid (Brief.of_e HRIb.out (by rw [HRE.out]; exact HBRF.out.1))
   have HEC := Lib.hid (fun W (h : r.In W All) => rencode_any W r h HBRr.out)
   rw [HRE.out] at HEC
   simp only at HEC
   obtain ⟨x, hx⟩ : ∃ x, x = bytesE rd := ⟨_, rfl⟩
   rw [← hx] at HEC
   have HXX := Lib.hid hx
   unfold RV.agg at HEC
   clear hx
   go_upto_region 10 with fail
   refine wp_region_held_drew (S := fun wx => Fr w2b wx (fun b => b = W0.heap.size)) (by kernel_rfl) ((Fr.refl w2b _).drew) (fun hS => ?_)
   refine wpAnyH_take (i := 0) (v := ?_) rfl (by kernel_rfl) (by kernel_rfl) (by kernel_rfl) (fun _ _ _ h => h) (Or.inl ⟨by rfl, ?_⟩) hS ?_
   rotate_left
   ·(intro wq hSw; go_simp; try with_reducible rfl)
   refine wpAnyH_ready (rs := [1]) (by kernel_rfl) (by simp) ?_
   refine AllReadyH.cons rfl (fun K hK => ?_) AllReadyH.nil
   go_simp
   refine HEND.out.mono ?_
   rintro e w3 ⟨rfl, hq3, hf3⟩
   refine hK.out _ _ ?_ (fun hS => ?_)
   ·exact hS.trans hf3 (fun b hb => Or.inl hb)
   clear hK K hq3 hf3
   refine wpAnyH_take (i := 2) (v := ?_) rfl (by kernel_rfl) (by kernel_rfl) (by kernel_rfl) (fun _ _ _ h => h) (Or.inl ⟨by rfl, ?_⟩) hS ?_
   rotate_left
   ·(intro wq hSw; go_simp; try with_reducible rfl)
   simp only [List.getElem_toArray, List.getElem_cons_succ, List.getElem_cons_zero, Act.put, List.setIfInBounds_toArray, List.set_cons_succ, List.set_cons_zero]
   refine wpAnyH_take (i := 3) (v := ?_) rfl (by kernel_rfl) (by kernel_rfl) (by kernel_rfl) (fun _ _ _ h => h) (Or.inl ⟨by rfl, ?_⟩) hS ?_
   rotate_left
   ·(intro wq hSw; go_simp; try with_reducible rfl)
   simp only [List.getElem_toArray, List.getElem_cons_succ, List.getElem_cons_zero, Act.put, List.setIfInBounds_toArray, List.set_cons_succ, List.set_cons_zero]
   refine wpAnyH_take (i := 4) (v := ?_) rfl (by kernel_rfl) (by kernel_rfl) (by kernel_rfl) (fun _ _ _ h => h) (Or.inl ⟨by rfl, ?_⟩) hS ?_
   rotate_left
   ·(intro wq hSw; obtain ⟨z0, z1, z2, z3, z4, z5, z6, z7, z8, z9, z10, z11, z12, z13, z14⟩ := rcs_cells (HBR.out.keep hSw (fun h => by have := HNB.out; omega)); go_simp; try with_reducible rfl)
   simp only [List.getElem_toArray, List.getElem_cons_succ, List.getElem_cons_zero, Act.put, List.setIfInBounds_toArray, List.set_cons_succ, List.set_cons_zero]
   refine wpAnyH_take (i := 7) (v := ?_) rfl (by kernel_rfl) (by kernel_rfl) (by kernel_rfl) (fun _ _ _ h => h) (Or.inl ⟨by rfl, ?_⟩) hS ?_
   rotate_left
   ·(intro wq hSw; go_simp; try with_reducible rfl)
   simp only [List.getElem_toArray, List.getElem_cons_succ, List.getElem_cons_zero, Act.put, List.setIfInBounds_toArray, List.set_cons_succ, List.set_cons_zero]
   refine wpAnyH_take (i := 8) (v := ?_) rfl (by kernel_rfl) (by kernel_rfl) (by kernel_rfl) (fun _ _ _ h => h) (Or.inl ⟨by rfl, ?_⟩) hS ?_
   rotate_left
   ·(intro wq hSw; go_simp; try with_reducible rfl)
   simp only [List.getElem_toArray, List.getElem_cons_succ, List.getElem_cons_zero, Act.put, List.setIfInBounds_toArray, List.set_cons_succ, List.set_cons_zero]
   refine wpAnyH_take (i := 9) (v := ?_) rfl (by kernel_rfl) (by kernel_rfl) (by kernel_rfl) (fun _ _ _ h => h) (Or.inl ⟨by rfl, ?_⟩) hS ?_
   rotate_left
   ·(intro wq hSw; go_simp; try with_reducible rfl)
   simp only [List.getElem_toArray, List.getElem_cons_succ, List.getElem_cons_zero, Act.put, List.setIfInBounds_toArray, List.set_cons_succ, List.set_cons_zero]
   refine wpAnyH_take (i := 10) (v := ?_) rfl (by kernel_rfl) (by kernel_rfl) (by kernel_rfl) (fun _ _ _ h => h) (Or.inl ⟨by rfl, ?_⟩) hS ?_
   rotate_left
   ·(intro wq hSw; have hq := run_conv _ (some ad) 3 3 (l.take 3) wq (HRTb.out.keep hSw (fun b hb he => by have h9 : b = ad.block := hb; have h8 : b = W0.heap.size := he; have := HGB.out; omega)); go_simp; try with_reducible rfl)
   simp only [List.getElem_toArray, List.getElem_cons_succ, List.getElem_cons_zero, Act.put, List.setIfInBounds_toArray, List.set_cons_succ, List.set_cons_zero]
   refine wpAnyH_ready (rs := [5]) (by kernel_rfl) (by simp) ?_
   refine AllReadyH.cons rfl (fun K hK => ?_) AllReadyH.nil
   go_simp
   refine (HEC.out _ ?_).mono ?_
   ·exact ((HRIb.out.mono (T' := fun b => WB.heap.size ≤ b) (fun b _ hb => hb)).keep hS (fun b hb he => by have h9 : WB.heap.size ≤ b := hb; have h8 : b = W0.heap.size := he; have := HLBs.out; omega)).mono (fun _ _ _ => trivial)
   unfold New
   rintro e w4 ⟨v5, rfl, ho5, hb5⟩
   obtain ⟨A5, c5, rfl, _, _, hr5⟩ := ho5.reads
   have hcv5 := run_conv _ A5 x.length c5 x w4 hr5
   have HRL := Lib.hid hr5.lt
   refine hK.out _ _ ?_ (fun hS => ?_)
   ·exact hS.trans (Fr.of_below hb5 No) fun _ hn => hn.elim
   clear hK K hb5 ho5 hr5
   by_cases heq : x = l.take 3
   ·have hsq : seq x (l.take 3) = true := by rw [heq]; unfold seq; simp
    have HEQ := Lib.hid heq
    clear heq
    refine wpAnyH_ready (rs := [6]) (by kernel_rfl) (by simp) ?_
    refine AllReadyH.cons rfl (fun K hK => ?_) AllReadyH.nil
    go_simp
    refine hK.out _ _ hS (fun hS => ?_)
    clear hK K hcv5
    refine wpAnyH_take (i := 11) (v := ?_) rfl (by kernel_rfl) (by kernel_rfl) (by kernel_rfl) (fun _ _ _ h => h) (Or.inl ⟨by rfl, ?_⟩) hS ?_
    rotate_left
    ·(intro wq hSw; go_simp; try with_reducible rfl)
    simp only [List.getElem_toArray, List.getElem_cons_succ, List.getElem_cons_zero, Act.put, List.setIfInBounds_toArray, List.set_cons_succ, List.set_cons_zero]
    refine wpAnyH_take (i := 12) (v := ?_) rfl (by kernel_rfl) (by kernel_rfl) (by kernel_rfl) (fun _ _ _ h => h) (Or.inl ⟨by rfl, ?_⟩) hS ?_
    rotate_left
    ·(intro wq hSw; go_simp; try with_reducible rfl)
    simp only [List.getElem_toArray, List.getElem_cons_succ, List.getElem_cons_zero, Act.put, List.setIfInBounds_toArray, List.set_cons_succ, List.set_cons_zero]
    refine wpAnyH_done (by kernel_rfl) ?_ _
    have HFE : Hid (Fr w2b w4 (fun b => b = W0.heap.size)) := Lib.hid hS
    clear hS
    have HB0c := Lib.hid (HB0b.out.keep HFE.out (fun h => by have := HSZ0.out; omega))
    have HLc : Hid (Below w.heap.size w w4) := Lib.hid (HLb.out.trans (HFE.out.below (fun b hb => by have := HSZ0.out; omega) HLb.out.size))
    have HBRc := Lib.hid (HBR.out.keep HFE.out (fun h => by have := HNB.out; omega))
    have HRIc := Lib.hid ((HRIb.out.mono (T' := fun b => WB.heap.size ≤ b) (fun b _ hb => hb)).keep HFE.out (fun b hb he => by have h9 : WB.heap.size ≤ b := hb; have h8 : b = W0.heap.size := he; have := HLBs.out; omega))
    have HBRc2 : Hid (Blk w4 w2.heap.size 31 #[.int .i64 r.k, .int .u64 (r.s : Int), .int .u32 (r.t : Int), .int .u64 (r.a : Int), .int .u64 (r.b : Int), .int .u32 (r.pg : Int), .int .u32 (r.rt : Int), .int .i64 r.o.k, .int .i64 r.o.s, .int .u32 (r.o.t : Int), .slice r.o.A r.o.m r.o.c, .slice r.iA r.im r.ic, .slice r.lA r.lm r.lc, .slice r.dA r.dm r.dc, .int .u32 (r.nx : Int)]) := Lib.hid HBRc.out
    go_wp2_with (first
     | (refine wpList_ldB rfl 31 (.tmp 7) rfl w2.heap.size rfl 31 #[.int .i64 r.k, .int .u64 (r.s : Int), .int .u32 (r.t : Int), .int .u64 (r.a : Int), .int .u64 (r.b : Int), .int .u32 (r.pg : Int), .int .u32 (r.rt : Int), .int .i64 r.o.k, .int .i64 r.o.s, .int .u32 (r.o.t : Int), .slice r.o.A r.o.m r.o.c, .slice r.iA r.im r.ic, .slice r.lA r.lm r.lc, .slice r.dA r.dm r.dc, .int .u32 (r.nx : Int)] _ HBRc2.out Tryz.underlying31 rfl size31 ?_)
     | (refine wpList_stB rfl 31 (.tmp 2) (.tmp 59) rfl w.heap.size #[.int .i64 r.k, .int .u64 (r.s : Int), .int .u32 (r.t : Int), .int .u64 (r.a : Int), .int .u64 (r.b : Int), .int .u32 (r.pg : Int), .int .u32 (r.rt : Int), .int .i64 r.o.k, .int .i64 r.o.s, .int .u32 (r.o.t : Int), .slice r.o.A r.o.m r.o.c, .slice r.iA r.im r.ic, .slice r.lA r.lm r.lc, .slice r.dA r.dm r.dc, .int .u32 (r.nx : Int)] rfl rfl 31 #[.int .i64 0, .int .u64 0, .int .u32 0, .int .u64 0, .int .u64 0, .int .u32 0, .int .u32 0, .int .i64 0, .int .i64 0, .int .u32 0, .slice none 0 0, .slice none 0 0, .slice none 0 0, .slice none 0 0, .int .u32 0] HB0c.out size31 rfl rfl ?_
        intro G hbG hfG
        have HBG := Lib.hid hbG
        have HFG := Lib.hid hfG
        clear hbG hfG)
     | fail)
    have hld := run_loadVar_row (P := Tryz.prog) G w.heap.size 31 31 #[.int .i64 r.k, .int .u64 (r.s : Int), .int .u32 (r.t : Int), .int .u64 (r.a : Int), .int .u64 (r.b : Int), .int .u32 (r.pg : Int), .int .u32 (r.rt : Int), .int .i64 r.o.k, .int .i64 r.o.s, .int .u32 (r.o.t : Int), .slice r.o.A r.o.m r.o.c, .slice r.iA r.im r.ic, .slice r.lA r.lm r.lc, .slice r.dA r.dm r.dc, .int .u32 (r.nx : Int)] (0, 0) _ HBG.out Tryz.underlying31 rfl size31
    refine bodyPost_ret (v := .tuple #[.agg #[.int .i64 r.k, .int .u64 (r.s : Int), .int .u32 (r.t : Int), .int .u64 (r.a : Int), .int .u64 (r.b : Int), .int .u32 (r.pg : Int), .int .u32 (r.rt : Int), .int .i64 r.o.k, .int .i64 r.o.s, .int .u32 (r.o.t : Int), .slice r.o.A r.o.m r.o.c, .slice r.iA r.im r.ic, .slice r.lA r.lm r.lc, .slice r.dA r.dm r.dc, .int .u32 (r.nx : Int)], .int .i64 (3 : Int), .int .i64 0]) (by simp [results, Tryz.results19, asAddr, hld]) rfl ?_
    have hin : rd.In := by have h9 := HRIb.out.e; rw [HRE.out] at h9; exact h9
    have hd : decR l = (rd, 3, 0) := by
     have h9 := decR_accepts (l := l) (rd := rd) (by rw [HLEN.out]; exact HN2.out) (by rw [← HNN.out]; exact HH3.out.1) (by rw [HLEN.out, ← HNN.out]; exact HH3.out.2) hin HBRF.out.2.1 (by rw [← HNN.out, ← HXX.out]; exact HEQ.out)
     rw [← HNN.out] at h9
     exact h9
    unfold DecQ
    rw [hd]
    exact ⟨r, rfl, HRE.out, (HRIc.out.keep HFG.out (fun b hb he => by have h9 : WB.heap.size ≤ b := hb; have h8 : b = w.heap.size := he; have := HLBs.out; have := HSZ0.out; omega)).mono (fun _ _ _ => trivial), HLc.out.trans (HFG.out.below (fun b hb => by omega) HLc.out.size)⟩
   ·have hsq : seq x (l.take 3) = false := by
     rw [seq_iff HRL.out HRTb.out.lt]
     exact decide_eq_false heq
    have HEQ := Lib.hid heq
    clear heq
    refine wpAnyH_ready (rs := [6]) (by kernel_rfl) (by simp) ?_
    refine AllReadyH.cons rfl (fun K hK => ?_) AllReadyH.nil
    go_simp
    refine hK.out _ _ hS (fun hS => ?_)
    clear hK K hcv5
    refine wpAnyH_take (i := 11) (v := ?_) rfl (by kernel_rfl) (by kernel_rfl) (by kernel_rfl) (fun _ _ _ h => h) (Or.inl ⟨by rfl, ?_⟩) hS ?_
    rotate_left
    ·(intro wq hSw; go_simp; try with_reducible rfl)
    simp only [List.getElem_toArray, List.getElem_cons_succ, List.getElem_cons_zero, Act.put, List.setIfInBounds_toArray, List.set_cons_succ, List.set_cons_zero]
    refine wpAnyH_take (i := 12) (v := ?_) rfl (by kernel_rfl) (by kernel_rfl) (by kernel_rfl) (fun _ _ _ h => h) (Or.inl ⟨by rfl, ?_⟩) hS ?_
    rotate_left
    ·(intro wq hSw; go_simp; try with_reducible rfl)
    simp only [List.getElem_toArray, List.getElem_cons_succ, List.getElem_cons_zero, Act.put, List.setIfInBounds_toArray, List.set_cons_succ, List.set_cons_zero]
    refine wpAnyH_done (by kernel_rfl) ?_ _
    have HFE : Hid (Fr w2b w4 (fun b => b = W0.heap.size)) := Lib.hid hS
    clear hS
    have HB0c := Lib.hid (HB0b.out.keep HFE.out (fun h => by have := HSZ0.out; omega))
    have HLc : Hid (Below w.heap.size w w4) := Lib.hid (HLb.out.trans (HFE.out.below (fun b hb => by have := HSZ0.out; omega) HLb.out.size))
    go_wp2_with (first
     | (refine wpList_stB rfl 31 (.tmp 2) (.tmp 58) rfl w.heap.size #[.int .i64 0, .int .u64 0, .int .u32 0, .int .u64 0, .int .u64 0, .int .u32 0, .int .u32 0, .int .i64 0, .int .i64 0, .int .u32 0, .slice none 0 0, .slice none 0 0, .slice none 0 0, .slice none 0 0, .int .u32 0] rfl rfl 31 #[.int .i64 0, .int .u64 0, .int .u32 0, .int .u64 0, .int .u64 0, .int .u32 0, .int .u32 0, .int .i64 0, .int .i64 0, .int .u32 0, .slice none 0 0, .slice none 0 0, .slice none 0 0, .slice none 0 0, .int .u32 0] HB0c.out size31 rfl rfl ?_
        intro G hbG hfG
        have HBG := Lib.hid hbG
        have HFG := Lib.hid hfG
        clear hbG hfG)
     | fail)
    have hld := run_loadVar_row (P := Tryz.prog) G w.heap.size 31 31 #[.int .i64 0, .int .u64 0, .int .u32 0, .int .u64 0, .int .u64 0, .int .u32 0, .int .u32 0, .int .i64 0, .int .i64 0, .int .u32 0, .slice none 0 0, .slice none 0 0, .slice none 0 0, .slice none 0 0, .int .u32 0] (0, 0) _ HBG.out Tryz.underlying31 rfl size31
    refine bodyPost_ret (v := .tuple #[.agg #[.int .i64 0, .int .u64 0, .int .u32 0, .int .u64 0, .int .u64 0, .int .u32 0, .int .u32 0, .int .i64 0, .int .i64 0, .int .u32 0, .slice none 0 0, .slice none 0 0, .slice none 0 0, .slice none 0 0, .int .u32 0], .int .i64 0, .int .i64 5]) (by simp [results, Tryz.results19, asAddr, hld]) rfl ?_
    have hd : decR l = (zE, 0, 5) := by refine decR_refuses (by rw [HLEN.out]; exact HN2.out) (by rw [← HNN.out]; exact HH3.out.1) (by rw [HLEN.out, ← HNN.out]; exact HH3.out.2) ?_; rw [← HNN.out, ← HF.out, ← HX2.out.1, HD.out]; rintro ⟨_, h2⟩; exact HEQ.out (by rw [HXX.out]; exact h2)
    unfold DecQ
    rw [hd]
    exact ⟨rz 0, rfl, rfl, rz0_In _ _, HLc.out.trans (HFG.out.below (fun b hb => by omega) HLc.out.size)⟩
theorem rdec_any (w : World) (A : Option Addr) (n c : Nat) (l : List Nat) (hr : RB w All A n l) (hnc : n ≤ c) (hlo : n ≤ 140737488351232) : Calls Tryz.prog 19 #[.slice A n c] w (DecQ w l) := by
 by_cases h2 : n < 2
 ·exact rdec_s1 w A n c l hr hnc hlo h2
 by_cases h3 : Cd.unfix (l.take 2) < 3 ∨ 16384 < Cd.unfix (l.take 2)
 ·exact rdec_s2 w A n c l hr hnc hlo (by omega) h3
 by_cases h4 : n < Cd.unfix (l.take 2)
 ·exact rdec_s3 w A n c l hr hnc hlo (by omega) (by omega) h4
 by_cases h5 : c = 3
 ·exact rdec_s4a w A n c l hr hnc hlo (by omega) (by omega) (by omega) h5
 ·exact rdec_s4b w A n c l hr hnc hlo (by omega) (by omega) (by omega) h5
end Go.Proofs.YtdhgbkibbileiaaGreat
