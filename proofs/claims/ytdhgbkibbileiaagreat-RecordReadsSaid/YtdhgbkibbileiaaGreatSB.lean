/-
SB
-/
import Derived.Test.YtdhgbkibbileiaaGreatSA
import Derived.Test.YtdhgbkibbileiaaGreatRM
import Derived.Test.YtdhgbkibbileiaaGreatPR
import Derived.Deep.Cut
set_option maxRecDepth 100000
namespace Go.Proofs.YtdhgbkibbileiaaGreat
open Go.RowKit
section
attribute [local go_sem high] run_neqL run_eqL
theorem equal_any {T T' : Nat → Prop} (A B : Option Addr) (n c m cb : Nat) (l k : List Nat) (w : World) (h : RB w T A n l) (h' : RB w T' B m k) :
  Calls Tryz.prog 35 #[.slice A n c, .slice B m cb] w fun e w' => e = .returned (.bool (seq l k)) ∧ w = w' := by
 have h1 := run_conv _ A n c l w h
 have h2 := run_conv _ B m cb k w h'
 clear h h'
 go_enter Tryz.func35, Tryz.ntmps35
 go_wp2_with fail
 go_ret
 exact ⟨rfl, rfl⟩
end
def zE : RE := (rz 0).e
def decR (l : List Nat) : RE × Nat × Int :=
 if l.length < 2 then (zE, 0, 6) else
 if Cd.unfix (l.take 2) < 3 ∨ 16384 < Cd.unfix (l.take 2) then (zE, 0, 5) else
 if l.length < Cd.unfix (l.take 2) then (zE, 0, 6) else
 if bytesE (readR ((l.take (Cd.unfix (l.take 2))).drop 2)) = l.take (Cd.unfix (l.take 2)) then (readR ((l.take (Cd.unfix (l.take 2))).drop 2), Cd.unfix (l.take 2), 0) else (zE, 0, 5)
def DecR (w : World) (l : List Nat) (e : Ending) (w' : World) : Prop := ∃ r : RV, e = .returned (.tuple #[r.agg, .int .i64 ((decR l).2.1 : Int), .int .i64 (decR l).2.2]) ∧ r.e = (decR l).1 ∧ r.In w' (fun b => w.heap.size ≤ b ∧ Zf w' b) ∧ Below w.heap.size w w'
theorem rz0_In (w : World) (T : Nat → Prop) : (rz 0).In w T := rz_In 0 (by decide) w T
set_option maxHeartbeats 16000000 in
theorem decode_s1 (w : World) (A : Option Addr) (n c : Nat) (l : List Nat) (hr : RB w All A n l) (hnc : n ≤ c) (hlo : n ≤ 140737488351232) (h2 : n < 2) : Calls Tryz.prog 18 #[.slice A n c] w (DecR w l) := by
 have hlen := hr.len
 have HR := Lib.hid hr
 have HLEN := Lib.hid hlen
 have HNC := Lib.hid (And.intro hnc hlo)
 obtain ⟨s, hs⟩ : ∃ s, s = decR l := ⟨_, rfl⟩
 unfold DecR
 rw [← hs]
 have HS := Lib.hid hs
 obtain ⟨W0, hW0⟩ : ∃ W0, w.alloc (.cells #[.int .i64 0, .int .u64 0, .int .u32 0, .int .u64 0, .int .u64 0, .int .u32 0, .int .u32 0, .int .i64 0, .int .i64 0, .int .u32 0, .slice none 0 0, .slice none 0 0, .slice none 0 0, .slice none 0 0, .int .u32 0] 31) = W0 := ⟨_, rfl⟩
 have HB0 : Hid (Blk W0 w.heap.size 31 #[.int .i64 0, .int .u64 0, .int .u32 0, .int .u64 0, .int .u64 0, .int .u32 0, .int .u32 0, .int .i64 0, .int .i64 0, .int .u32 0, .slice none 0 0, .slice none 0 0, .slice none 0 0, .slice none 0 0, .int .u32 0]) := Lib.hid (by rw [← hW0]; exact Blk.new w 31 _)
 have HL0 : Hid (Below w.heap.size w W0) := Lib.hid (by rw [← hW0]; exact (Below.refl _ _).alloc (Nat.le_refl _) _)
 have HSZ0 : Hid (W0.heap.size = w.heap.size + 1) := Lib.hid (by rw [← hW0]; simp)
 have HR0 := Lib.hid (hr.keep (Fr.of_below HL0.out No) fun _ _ hn => hn)
 clear hr hnc hlo hs hlen
 have d1 : decide ((n : Int) < 2) = true := decide_eq_true (by omega)
 have d2 : decide (n < 2) = true := decide_eq_true h2
 have HSS : Hid (s = (zE, 0, 6)) := Lib.hid (by rw [HS.out]; unfold decR; rw [if_pos (by rw [HLEN.out]; exact h2)])
 clear h2
 go_enter Tryz.func18, Tryz.ntmps18
 have e0 : Blk W0 w.heap.size 31 #[.int .i64 0, .int .u64 0, .int .u32 0, .int .u64 0, .int .u64 0, .int .u32 0, .int .u32 0, .int .i64 0, .int .i64 0, .int .u32 0, .slice none 0 0, .slice none 0 0, .slice none 0 0, .slice none 0 0, .int .u32 0] := HB0.out
 have j0 : Fr W0 W0 (fun b => b = w.heap.size) := Fr.refl W0 _
 have r0 := e0.cell 0
 have q0 := e0.frozen 0
 simp only [List.getElem?_toArray, List.getElem?_cons_zero] at r0
 obtain ⟨G1, hG1⟩ : ∃ X, W0.setCell ⟨w.heap.size, 0, none⟩ (.int .i64 0) = X := ⟨_, rfl⟩
 have e1 : Blk G1 w.heap.size 31 #[.int .i64 0, .int .u64 0, .int .u32 0, .int .u64 0, .int .u64 0, .int .u32 0, .int .u32 0, .int .i64 0, .int .i64 0, .int .u32 0, .slice none 0 0, .slice none 0 0, .slice none 0 0, .slice none 0 0, .int .u32 0] := by rw [← hG1]; exact e0.set_ 0 _
 have j1 : Fr W0 G1 (fun b => b = w.heap.size) := by rw [← hG1]; exact fr_set j0 _ _
 have r1 := e1.cell 1
 have q1 := e1.frozen 1
 simp only [List.getElem?_toArray, List.getElem?_cons_zero, List.getElem?_cons_succ] at r1
 obtain ⟨G2, hG2⟩ : ∃ X, G1.setCell ⟨w.heap.size, 1, none⟩ (.int .u64 0) = X := ⟨_, rfl⟩
 have e2 : Blk G2 w.heap.size 31 #[.int .i64 0, .int .u64 0, .int .u32 0, .int .u64 0, .int .u64 0, .int .u32 0, .int .u32 0, .int .i64 0, .int .i64 0, .int .u32 0, .slice none 0 0, .slice none 0 0, .slice none 0 0, .slice none 0 0, .int .u32 0] := by rw [← hG2]; exact e1.set_ 1 _
 have j2 : Fr W0 G2 (fun b => b = w.heap.size) := by rw [← hG2]; exact fr_set j1 _ _
 have r2 := e2.cell 2
 have q2 := e2.frozen 2
 simp only [List.getElem?_toArray, List.getElem?_cons_zero, List.getElem?_cons_succ] at r2
 obtain ⟨G3, hG3⟩ : ∃ X, G2.setCell ⟨w.heap.size, 2, none⟩ (.int .u32 0) = X := ⟨_, rfl⟩
 have e3 : Blk G3 w.heap.size 31 #[.int .i64 0, .int .u64 0, .int .u32 0, .int .u64 0, .int .u64 0, .int .u32 0, .int .u32 0, .int .i64 0, .int .i64 0, .int .u32 0, .slice none 0 0, .slice none 0 0, .slice none 0 0, .slice none 0 0, .int .u32 0] := by rw [← hG3]; exact e2.set_ 2 _
 have j3 : Fr W0 G3 (fun b => b = w.heap.size) := by rw [← hG3]; exact fr_set j2 _ _
 have r3 := e3.cell 3
 have q3 := e3.frozen 3
 simp only [List.getElem?_toArray, List.getElem?_cons_zero, List.getElem?_cons_succ] at r3
 obtain ⟨G4, hG4⟩ : ∃ X, G3.setCell ⟨w.heap.size, 3, none⟩ (.int .u64 0) = X := ⟨_, rfl⟩
 have e4 : Blk G4 w.heap.size 31 #[.int .i64 0, .int .u64 0, .int .u32 0, .int .u64 0, .int .u64 0, .int .u32 0, .int .u32 0, .int .i64 0, .int .i64 0, .int .u32 0, .slice none 0 0, .slice none 0 0, .slice none 0 0, .slice none 0 0, .int .u32 0] := by rw [← hG4]; exact e3.set_ 3 _
 have j4 : Fr W0 G4 (fun b => b = w.heap.size) := by rw [← hG4]; exact fr_set j3 _ _
 have r4 := e4.cell 4
 have q4 := e4.frozen 4
 simp only [List.getElem?_toArray, List.getElem?_cons_zero, List.getElem?_cons_succ] at r4
 obtain ⟨G5, hG5⟩ : ∃ X, G4.setCell ⟨w.heap.size, 4, none⟩ (.int .u64 0) = X := ⟨_, rfl⟩
 have e5 : Blk G5 w.heap.size 31 #[.int .i64 0, .int .u64 0, .int .u32 0, .int .u64 0, .int .u64 0, .int .u32 0, .int .u32 0, .int .i64 0, .int .i64 0, .int .u32 0, .slice none 0 0, .slice none 0 0, .slice none 0 0, .slice none 0 0, .int .u32 0] := by rw [← hG5]; exact e4.set_ 4 _
 have j5 : Fr W0 G5 (fun b => b = w.heap.size) := by rw [← hG5]; exact fr_set j4 _ _
 have r5 := e5.cell 5
 have q5 := e5.frozen 5
 simp only [List.getElem?_toArray, List.getElem?_cons_zero, List.getElem?_cons_succ] at r5
 obtain ⟨G6, hG6⟩ : ∃ X, G5.setCell ⟨w.heap.size, 5, none⟩ (.int .u32 0) = X := ⟨_, rfl⟩
 have e6 : Blk G6 w.heap.size 31 #[.int .i64 0, .int .u64 0, .int .u32 0, .int .u64 0, .int .u64 0, .int .u32 0, .int .u32 0, .int .i64 0, .int .i64 0, .int .u32 0, .slice none 0 0, .slice none 0 0, .slice none 0 0, .slice none 0 0, .int .u32 0] := by rw [← hG6]; exact e5.set_ 5 _
 have j6 : Fr W0 G6 (fun b => b = w.heap.size) := by rw [← hG6]; exact fr_set j5 _ _
 have r6 := e6.cell 6
 have q6 := e6.frozen 6
 simp only [List.getElem?_toArray, List.getElem?_cons_zero, List.getElem?_cons_succ] at r6
 obtain ⟨G7, hG7⟩ : ∃ X, G6.setCell ⟨w.heap.size, 6, none⟩ (.int .u32 0) = X := ⟨_, rfl⟩
 have e7 : Blk G7 w.heap.size 31 #[.int .i64 0, .int .u64 0, .int .u32 0, .int .u64 0, .int .u64 0, .int .u32 0, .int .u32 0, .int .i64 0, .int .i64 0, .int .u32 0, .slice none 0 0, .slice none 0 0, .slice none 0 0, .slice none 0 0, .int .u32 0] := by rw [← hG7]; exact e6.set_ 6 _
 have j7 : Fr W0 G7 (fun b => b = w.heap.size) := by rw [← hG7]; exact fr_set j6 _ _
 have r7 := e7.cell 7
 have q7 := e7.frozen 7
 simp only [List.getElem?_toArray, List.getElem?_cons_zero, List.getElem?_cons_succ] at r7
 obtain ⟨G8, hG8⟩ : ∃ X, G7.setCell ⟨w.heap.size, 7, none⟩ (.int .i64 0) = X := ⟨_, rfl⟩
 have e8 : Blk G8 w.heap.size 31 #[.int .i64 0, .int .u64 0, .int .u32 0, .int .u64 0, .int .u64 0, .int .u32 0, .int .u32 0, .int .i64 0, .int .i64 0, .int .u32 0, .slice none 0 0, .slice none 0 0, .slice none 0 0, .slice none 0 0, .int .u32 0] := by rw [← hG8]; exact e7.set_ 7 _
 have j8 : Fr W0 G8 (fun b => b = w.heap.size) := by rw [← hG8]; exact fr_set j7 _ _
 have r8 := e8.cell 8
 have q8 := e8.frozen 8
 simp only [List.getElem?_toArray, List.getElem?_cons_zero, List.getElem?_cons_succ] at r8
 obtain ⟨G9, hG9⟩ : ∃ X, G8.setCell ⟨w.heap.size, 8, none⟩ (.int .i64 0) = X := ⟨_, rfl⟩
 have e9 : Blk G9 w.heap.size 31 #[.int .i64 0, .int .u64 0, .int .u32 0, .int .u64 0, .int .u64 0, .int .u32 0, .int .u32 0, .int .i64 0, .int .i64 0, .int .u32 0, .slice none 0 0, .slice none 0 0, .slice none 0 0, .slice none 0 0, .int .u32 0] := by rw [← hG9]; exact e8.set_ 8 _
 have j9 : Fr W0 G9 (fun b => b = w.heap.size) := by rw [← hG9]; exact fr_set j8 _ _
 have r9 := e9.cell 9
 have q9 := e9.frozen 9
 simp only [List.getElem?_toArray, List.getElem?_cons_zero, List.getElem?_cons_succ] at r9
 obtain ⟨G10, hG10⟩ : ∃ X, G9.setCell ⟨w.heap.size, 9, none⟩ (.int .u32 0) = X := ⟨_, rfl⟩
 have e10 : Blk G10 w.heap.size 31 #[.int .i64 0, .int .u64 0, .int .u32 0, .int .u64 0, .int .u64 0, .int .u32 0, .int .u32 0, .int .i64 0, .int .i64 0, .int .u32 0, .slice none 0 0, .slice none 0 0, .slice none 0 0, .slice none 0 0, .int .u32 0] := by rw [← hG10]; exact e9.set_ 9 _
 have j10 : Fr W0 G10 (fun b => b = w.heap.size) := by rw [← hG10]; exact fr_set j9 _ _
 have r10 := e10.cell 10
 have q10 := e10.frozen 10
 simp only [List.getElem?_toArray, List.getElem?_cons_zero, List.getElem?_cons_succ] at r10
 obtain ⟨G11, hG11⟩ : ∃ X, G10.setCell ⟨w.heap.size, 10, none⟩ (.slice none 0 0) = X := ⟨_, rfl⟩
 have e11 : Blk G11 w.heap.size 31 #[.int .i64 0, .int .u64 0, .int .u32 0, .int .u64 0, .int .u64 0, .int .u32 0, .int .u32 0, .int .i64 0, .int .i64 0, .int .u32 0, .slice none 0 0, .slice none 0 0, .slice none 0 0, .slice none 0 0, .int .u32 0] := by rw [← hG11]; exact e10.set_ 10 _
 have j11 : Fr W0 G11 (fun b => b = w.heap.size) := by rw [← hG11]; exact fr_set j10 _ _
 have r11 := e11.cell 11
 have q11 := e11.frozen 11
 simp only [List.getElem?_toArray, List.getElem?_cons_zero, List.getElem?_cons_succ] at r11
 obtain ⟨G12, hG12⟩ : ∃ X, G11.setCell ⟨w.heap.size, 11, none⟩ (.slice none 0 0) = X := ⟨_, rfl⟩
 have e12 : Blk G12 w.heap.size 31 #[.int .i64 0, .int .u64 0, .int .u32 0, .int .u64 0, .int .u64 0, .int .u32 0, .int .u32 0, .int .i64 0, .int .i64 0, .int .u32 0, .slice none 0 0, .slice none 0 0, .slice none 0 0, .slice none 0 0, .int .u32 0] := by rw [← hG12]; exact e11.set_ 11 _
 have j12 : Fr W0 G12 (fun b => b = w.heap.size) := by rw [← hG12]; exact fr_set j11 _ _
 have r12 := e12.cell 12
 have q12 := e12.frozen 12
 simp only [List.getElem?_toArray, List.getElem?_cons_zero, List.getElem?_cons_succ] at r12
 obtain ⟨G13, hG13⟩ : ∃ X, G12.setCell ⟨w.heap.size, 12, none⟩ (.slice none 0 0) = X := ⟨_, rfl⟩
 have e13 : Blk G13 w.heap.size 31 #[.int .i64 0, .int .u64 0, .int .u32 0, .int .u64 0, .int .u64 0, .int .u32 0, .int .u32 0, .int .i64 0, .int .i64 0, .int .u32 0, .slice none 0 0, .slice none 0 0, .slice none 0 0, .slice none 0 0, .int .u32 0] := by rw [← hG13]; exact e12.set_ 12 _
 have j13 : Fr W0 G13 (fun b => b = w.heap.size) := by rw [← hG13]; exact fr_set j12 _ _
 have r13 := e13.cell 13
 have q13 := e13.frozen 13
 simp only [List.getElem?_toArray, List.getElem?_cons_zero, List.getElem?_cons_succ] at r13
 obtain ⟨G14, hG14⟩ : ∃ X, G13.setCell ⟨w.heap.size, 13, none⟩ (.slice none 0 0) = X := ⟨_, rfl⟩
 have e14 : Blk G14 w.heap.size 31 #[.int .i64 0, .int .u64 0, .int .u32 0, .int .u64 0, .int .u64 0, .int .u32 0, .int .u32 0, .int .i64 0, .int .i64 0, .int .u32 0, .slice none 0 0, .slice none 0 0, .slice none 0 0, .slice none 0 0, .int .u32 0] := by rw [← hG14]; exact e13.set_ 13 _
 have j14 : Fr W0 G14 (fun b => b = w.heap.size) := by rw [← hG14]; exact fr_set j13 _ _
 have r14 := e14.cell 14
 have q14 := e14.frozen 14
 simp only [List.getElem?_toArray, List.getElem?_cons_zero, List.getElem?_cons_succ] at r14
 obtain ⟨G, hG15⟩ : ∃ X, G14.setCell ⟨w.heap.size, 14, none⟩ (.int .u32 0) = X := ⟨_, rfl⟩
 have e15 : Blk G w.heap.size 31 #[.int .i64 0, .int .u64 0, .int .u32 0, .int .u64 0, .int .u64 0, .int .u32 0, .int .u32 0, .int .i64 0, .int .i64 0, .int .u32 0, .slice none 0 0, .slice none 0 0, .slice none 0 0, .slice none 0 0, .int .u32 0] := by rw [← hG15]; exact e14.set_ 14 _
 have j15 : Fr W0 G (fun b => b = w.heap.size) := by rw [← hG15]; exact fr_set j14 _ _
 have g0 := e15.cell 0
 have g1 := e15.cell 1
 have g2 := e15.cell 2
 have g3 := e15.cell 3
 have g4 := e15.cell 4
 have g5 := e15.cell 5
 have g6 := e15.cell 6
 have g7 := e15.cell 7
 have g8 := e15.cell 8
 have g9 := e15.cell 9
 have g10 := e15.cell 10
 have g11 := e15.cell 11
 have g12 := e15.cell 12
 have g13 := e15.cell 13
 have g14 := e15.cell 14
 simp only [List.getElem?_toArray, List.getElem?_cons_zero, List.getElem?_cons_succ] at g0 g1 g2 g3 g4 g5 g6 g7 g8 g9 g10 g11 g12 g13 g14
 have HFG := Lib.hid j15
 clear e0 j0 e1 j1 e2 j2 e3 j3 e4 j4 e5 j5 e6 j6 e7 j7 e8 j8 e9 j9 e10 j10 e11 j11 e12 j12 e13 j13 e14 j14 e15 j15
 go_wp2_with fail
 rw [HSS.out]
 refine bodyPost_ret (v := .tuple #[(rz 0).agg, .int .i64 0, .int .i64 6]) (by simp [results, Tryz.results18, go_sem, g0, g1, g2, g3, g4, g5, g6, g7, g8, g9, g10, g11, g12, g13, g14, RV.agg, rz]) rfl ?_
 exact ⟨rz 0, rfl, rfl, rz0_In _ _, HL0.out.trans (HFG.out.below (fun b hb => by omega) HL0.out.size)⟩
set_option maxHeartbeats 16000000 in
theorem decode_s2 (w : World) (A : Option Addr) (n c : Nat) (l : List Nat) (hr : RB w All A n l) (hnc : n ≤ c) (hlo : n ≤ 140737488351232) (h2 : ¬ n < 2) (hbad : Cd.unfix (l.take 2) < 3 ∨ 16384 < Cd.unfix (l.take 2) ∨ n < Cd.unfix (l.take 2)) : Calls Tryz.prog 18 #[.slice A n c] w (DecR w l) := by
 have hlen := hr.len
 have HR := Lib.hid hr
 have HLEN := Lib.hid hlen
 have HNC := Lib.hid (And.intro hnc hlo)
 obtain ⟨s, hs⟩ : ∃ s, s = decR l := ⟨_, rfl⟩
 unfold DecR
 rw [← hs]
 have HS := Lib.hid hs
 obtain ⟨W0, hW0⟩ : ∃ W0, w.alloc (.cells #[.int .i64 0, .int .u64 0, .int .u32 0, .int .u64 0, .int .u64 0, .int .u32 0, .int .u32 0, .int .i64 0, .int .i64 0, .int .u32 0, .slice none 0 0, .slice none 0 0, .slice none 0 0, .slice none 0 0, .int .u32 0] 31) = W0 := ⟨_, rfl⟩
 have HB0 : Hid (Blk W0 w.heap.size 31 #[.int .i64 0, .int .u64 0, .int .u32 0, .int .u64 0, .int .u64 0, .int .u32 0, .int .u32 0, .int .i64 0, .int .i64 0, .int .u32 0, .slice none 0 0, .slice none 0 0, .slice none 0 0, .slice none 0 0, .int .u32 0]) := Lib.hid (by rw [← hW0]; exact Blk.new w 31 _)
 have HL0 : Hid (Below w.heap.size w W0) := Lib.hid (by rw [← hW0]; exact (Below.refl _ _).alloc (Nat.le_refl _) _)
 have HSZ0 : Hid (W0.heap.size = w.heap.size + 1) := Lib.hid (by rw [← hW0]; simp)
 have HR0 := Lib.hid (hr.keep (Fr.of_below HL0.out No) fun _ _ hn => hn)
 clear hr hnc hlo hs hlen
 have HBD := Lib.hid hbad
 clear hbad
 have d1 : decide ((n : Int) < 2) = false := decide_eq_false (by omega)
 have d2 : decide (n < 2) = false := decide_eq_false h2
 obtain ⟨ad, hA⟩ : ∃ ad, A = some ad := by
  obtain ⟨ad, h, _⟩ := HR.out.2.2 (by omega)
  exact ⟨ad, h⟩
 subst hA
 have h2c : ((2 : Int) ≤ (c : Int)) := by have := HNC.out.1; omega
 have d3 : decide ((2 : Int) ≤ (c : Int)) = true := decide_eq_true h2c
 have HN2 := Lib.hid h2
 have HNR := Lib.hid (newReader_any W0 All (some ad) 2 c (l.take 2) (HR0.out.take (by omega)) (by decide))
 clear h2
 go_enter Tryz.func18, Tryz.ntmps18
 go_wp2_with fail
 with_reducible refine HNR.out.mono ?_
 rintro e w1 ⟨p0, rfl, hr1, hb1⟩
 have HU := ru16_any w1 _ (some p0) true (l.take 2) hr1
 have hval : valO true (fixO (l.take 2) 2) 0 = Cd.unfix (l.take 2) := by
  have h9 := HLEN.out
  have h8 := HN2.out
  unfold fixO
  rw [show takeO (l.take 2) ((2 : Nat) : Int) = some ((l.take 2).take 2, 2) from takeO_yes (by rw [List.length_take]; omega)]
  simp [valO, List.take_take]
 rw [hval] at HU
 obtain ⟨q, hq⟩ : ∃ q, q = Cd.unfix (l.take 2) := ⟨_, rfl⟩
 have hq16 : q < 65536 := by
  have h9 := Cd.unfix_lt (l.take 2) fun x hx => HR.out.2.1 x (List.mem_of_mem_take hx)
  have h8 : (l.take 2).length ≤ 2 := by rw [List.length_take]; omega
  have h7 : 256 ^ (l.take 2).length ≤ 256 ^ 2 := Nat.pow_le_pow_right (by decide) h8
  rw [hq]
  exact Nat.lt_of_lt_of_le h9 (Nat.le_trans h7 (by decide))
 rw [← hq] at HU
 have HQ := Lib.hid hq
 have HU' := Lib.hid HU
 have HB1 := Lib.hid hb1
 have hwq : IntKind.i64.wrap (q : Int) = (q : Int) := IntWalk.i64_in _ (by omega)
 have HSQ : Hid (s = if q < 3 ∨ 16384 < q then (zE, 0, 5) else if n < q then (zE, 0, 6) else if bytesE (readR ((l.take q).drop 2)) = l.take q then (readR ((l.take q).drop 2), q, 0) else (zE, 0, 5)) := Lib.hid (by
  have h9 := HLEN.out
  have h8 := HN2.out
  rw [HS.out]; unfold decR; rw [if_neg (by omega), ← hq, h9])
 clear hr1 hb1 HU hval hq
 go_wp2_with fail
 with_reducible refine HU'.out.mono ?_
 rintro e w2 ⟨rfl, hg2⟩
 have hb2 : Below W0.heap.size W0 w2 := HB1.out.trans (hg2.2.below (fun b hb => hb) HB1.out.size)
 have HB2 := Lib.hid hb2
 have HBR2 := Lib.hid (HB0.out.below hb2 HB0.out.lt)
 clear hg2 hb2
 by_cases h3 : q < 3
 ·have d4 : decide ((q : Int) < 3) = true := decide_eq_true (by omega)
  have d5 : decide (q < 3) = true := decide_eq_true h3
  have HSS : Hid (s = (zE, 0, 5)) := Lib.hid (by rw [HSQ.out, if_pos (Or.inl h3)])
  clear h3
  have e0 : Blk w2 w.heap.size 31 #[.int .i64 0, .int .u64 0, .int .u32 0, .int .u64 0, .int .u64 0, .int .u32 0, .int .u32 0, .int .i64 0, .int .i64 0, .int .u32 0, .slice none 0 0, .slice none 0 0, .slice none 0 0, .slice none 0 0, .int .u32 0] := HBR2.out
  have j0 : Fr w2 w2 (fun b => b = w.heap.size) := Fr.refl w2 _
  have r0 := e0.cell 0
  have q0 := e0.frozen 0
  simp only [List.getElem?_toArray, List.getElem?_cons_zero] at r0
  obtain ⟨G1, hG1⟩ : ∃ X, w2.setCell ⟨w.heap.size, 0, none⟩ (.int .i64 0) = X := ⟨_, rfl⟩
  have e1 : Blk G1 w.heap.size 31 #[.int .i64 0, .int .u64 0, .int .u32 0, .int .u64 0, .int .u64 0, .int .u32 0, .int .u32 0, .int .i64 0, .int .i64 0, .int .u32 0, .slice none 0 0, .slice none 0 0, .slice none 0 0, .slice none 0 0, .int .u32 0] := by rw [← hG1]; exact e0.set_ 0 _
  have j1 : Fr w2 G1 (fun b => b = w.heap.size) := by rw [← hG1]; exact fr_set j0 _ _
  have r1 := e1.cell 1
  have q1 := e1.frozen 1
  simp only [List.getElem?_toArray, List.getElem?_cons_zero, List.getElem?_cons_succ] at r1
  obtain ⟨G2, hG2⟩ : ∃ X, G1.setCell ⟨w.heap.size, 1, none⟩ (.int .u64 0) = X := ⟨_, rfl⟩
  have e2 : Blk G2 w.heap.size 31 #[.int .i64 0, .int .u64 0, .int .u32 0, .int .u64 0, .int .u64 0, .int .u32 0, .int .u32 0, .int .i64 0, .int .i64 0, .int .u32 0, .slice none 0 0, .slice none 0 0, .slice none 0 0, .slice none 0 0, .int .u32 0] := by rw [← hG2]; exact e1.set_ 1 _
  have j2 : Fr w2 G2 (fun b => b = w.heap.size) := by rw [← hG2]; exact fr_set j1 _ _
  have r2 := e2.cell 2
  have q2 := e2.frozen 2
  simp only [List.getElem?_toArray, List.getElem?_cons_zero, List.getElem?_cons_succ] at r2
  obtain ⟨G3, hG3⟩ : ∃ X, G2.setCell ⟨w.heap.size, 2, none⟩ (.int .u32 0) = X := ⟨_, rfl⟩
  have e3 : Blk G3 w.heap.size 31 #[.int .i64 0, .int .u64 0, .int .u32 0, .int .u64 0, .int .u64 0, .int .u32 0, .int .u32 0, .int .i64 0, .int .i64 0, .int .u32 0, .slice none 0 0, .slice none 0 0, .slice none 0 0, .slice none 0 0, .int .u32 0] := by rw [← hG3]; exact e2.set_ 2 _
  have j3 : Fr w2 G3 (fun b => b = w.heap.size) := by rw [← hG3]; exact fr_set j2 _ _
  have r3 := e3.cell 3
  have q3 := e3.frozen 3
  simp only [List.getElem?_toArray, List.getElem?_cons_zero, List.getElem?_cons_succ] at r3
  obtain ⟨G4, hG4⟩ : ∃ X, G3.setCell ⟨w.heap.size, 3, none⟩ (.int .u64 0) = X := ⟨_, rfl⟩
  have e4 : Blk G4 w.heap.size 31 #[.int .i64 0, .int .u64 0, .int .u32 0, .int .u64 0, .int .u64 0, .int .u32 0, .int .u32 0, .int .i64 0, .int .i64 0, .int .u32 0, .slice none 0 0, .slice none 0 0, .slice none 0 0, .slice none 0 0, .int .u32 0] := by rw [← hG4]; exact e3.set_ 3 _
  have j4 : Fr w2 G4 (fun b => b = w.heap.size) := by rw [← hG4]; exact fr_set j3 _ _
  have r4 := e4.cell 4
  have q4 := e4.frozen 4
  simp only [List.getElem?_toArray, List.getElem?_cons_zero, List.getElem?_cons_succ] at r4
  obtain ⟨G5, hG5⟩ : ∃ X, G4.setCell ⟨w.heap.size, 4, none⟩ (.int .u64 0) = X := ⟨_, rfl⟩
  have e5 : Blk G5 w.heap.size 31 #[.int .i64 0, .int .u64 0, .int .u32 0, .int .u64 0, .int .u64 0, .int .u32 0, .int .u32 0, .int .i64 0, .int .i64 0, .int .u32 0, .slice none 0 0, .slice none 0 0, .slice none 0 0, .slice none 0 0, .int .u32 0] := by rw [← hG5]; exact e4.set_ 4 _
  have j5 : Fr w2 G5 (fun b => b = w.heap.size) := by rw [← hG5]; exact fr_set j4 _ _
  have r5 := e5.cell 5
  have q5 := e5.frozen 5
  simp only [List.getElem?_toArray, List.getElem?_cons_zero, List.getElem?_cons_succ] at r5
  obtain ⟨G6, hG6⟩ : ∃ X, G5.setCell ⟨w.heap.size, 5, none⟩ (.int .u32 0) = X := ⟨_, rfl⟩
  have e6 : Blk G6 w.heap.size 31 #[.int .i64 0, .int .u64 0, .int .u32 0, .int .u64 0, .int .u64 0, .int .u32 0, .int .u32 0, .int .i64 0, .int .i64 0, .int .u32 0, .slice none 0 0, .slice none 0 0, .slice none 0 0, .slice none 0 0, .int .u32 0] := by rw [← hG6]; exact e5.set_ 5 _
  have j6 : Fr w2 G6 (fun b => b = w.heap.size) := by rw [← hG6]; exact fr_set j5 _ _
  have r6 := e6.cell 6
  have q6 := e6.frozen 6
  simp only [List.getElem?_toArray, List.getElem?_cons_zero, List.getElem?_cons_succ] at r6
  obtain ⟨G7, hG7⟩ : ∃ X, G6.setCell ⟨w.heap.size, 6, none⟩ (.int .u32 0) = X := ⟨_, rfl⟩
  have e7 : Blk G7 w.heap.size 31 #[.int .i64 0, .int .u64 0, .int .u32 0, .int .u64 0, .int .u64 0, .int .u32 0, .int .u32 0, .int .i64 0, .int .i64 0, .int .u32 0, .slice none 0 0, .slice none 0 0, .slice none 0 0, .slice none 0 0, .int .u32 0] := by rw [← hG7]; exact e6.set_ 6 _
  have j7 : Fr w2 G7 (fun b => b = w.heap.size) := by rw [← hG7]; exact fr_set j6 _ _
  have r7 := e7.cell 7
  have q7 := e7.frozen 7
  simp only [List.getElem?_toArray, List.getElem?_cons_zero, List.getElem?_cons_succ] at r7
  obtain ⟨G8, hG8⟩ : ∃ X, G7.setCell ⟨w.heap.size, 7, none⟩ (.int .i64 0) = X := ⟨_, rfl⟩
  have e8 : Blk G8 w.heap.size 31 #[.int .i64 0, .int .u64 0, .int .u32 0, .int .u64 0, .int .u64 0, .int .u32 0, .int .u32 0, .int .i64 0, .int .i64 0, .int .u32 0, .slice none 0 0, .slice none 0 0, .slice none 0 0, .slice none 0 0, .int .u32 0] := by rw [← hG8]; exact e7.set_ 7 _
  have j8 : Fr w2 G8 (fun b => b = w.heap.size) := by rw [← hG8]; exact fr_set j7 _ _
  have r8 := e8.cell 8
  have q8 := e8.frozen 8
  simp only [List.getElem?_toArray, List.getElem?_cons_zero, List.getElem?_cons_succ] at r8
  obtain ⟨G9, hG9⟩ : ∃ X, G8.setCell ⟨w.heap.size, 8, none⟩ (.int .i64 0) = X := ⟨_, rfl⟩
  have e9 : Blk G9 w.heap.size 31 #[.int .i64 0, .int .u64 0, .int .u32 0, .int .u64 0, .int .u64 0, .int .u32 0, .int .u32 0, .int .i64 0, .int .i64 0, .int .u32 0, .slice none 0 0, .slice none 0 0, .slice none 0 0, .slice none 0 0, .int .u32 0] := by rw [← hG9]; exact e8.set_ 8 _
  have j9 : Fr w2 G9 (fun b => b = w.heap.size) := by rw [← hG9]; exact fr_set j8 _ _
  have r9 := e9.cell 9
  have q9 := e9.frozen 9
  simp only [List.getElem?_toArray, List.getElem?_cons_zero, List.getElem?_cons_succ] at r9
  obtain ⟨G10, hG10⟩ : ∃ X, G9.setCell ⟨w.heap.size, 9, none⟩ (.int .u32 0) = X := ⟨_, rfl⟩
  have e10 : Blk G10 w.heap.size 31 #[.int .i64 0, .int .u64 0, .int .u32 0, .int .u64 0, .int .u64 0, .int .u32 0, .int .u32 0, .int .i64 0, .int .i64 0, .int .u32 0, .slice none 0 0, .slice none 0 0, .slice none 0 0, .slice none 0 0, .int .u32 0] := by rw [← hG10]; exact e9.set_ 9 _
  have j10 : Fr w2 G10 (fun b => b = w.heap.size) := by rw [← hG10]; exact fr_set j9 _ _
  have r10 := e10.cell 10
  have q10 := e10.frozen 10
  simp only [List.getElem?_toArray, List.getElem?_cons_zero, List.getElem?_cons_succ] at r10
  obtain ⟨G11, hG11⟩ : ∃ X, G10.setCell ⟨w.heap.size, 10, none⟩ (.slice none 0 0) = X := ⟨_, rfl⟩
  have e11 : Blk G11 w.heap.size 31 #[.int .i64 0, .int .u64 0, .int .u32 0, .int .u64 0, .int .u64 0, .int .u32 0, .int .u32 0, .int .i64 0, .int .i64 0, .int .u32 0, .slice none 0 0, .slice none 0 0, .slice none 0 0, .slice none 0 0, .int .u32 0] := by rw [← hG11]; exact e10.set_ 10 _
  have j11 : Fr w2 G11 (fun b => b = w.heap.size) := by rw [← hG11]; exact fr_set j10 _ _
  have r11 := e11.cell 11
  have q11 := e11.frozen 11
  simp only [List.getElem?_toArray, List.getElem?_cons_zero, List.getElem?_cons_succ] at r11
  obtain ⟨G12, hG12⟩ : ∃ X, G11.setCell ⟨w.heap.size, 11, none⟩ (.slice none 0 0) = X := ⟨_, rfl⟩
  have e12 : Blk G12 w.heap.size 31 #[.int .i64 0, .int .u64 0, .int .u32 0, .int .u64 0, .int .u64 0, .int .u32 0, .int .u32 0, .int .i64 0, .int .i64 0, .int .u32 0, .slice none 0 0, .slice none 0 0, .slice none 0 0, .slice none 0 0, .int .u32 0] := by rw [← hG12]; exact e11.set_ 11 _
  have j12 : Fr w2 G12 (fun b => b = w.heap.size) := by rw [← hG12]; exact fr_set j11 _ _
  have r12 := e12.cell 12
  have q12 := e12.frozen 12
  simp only [List.getElem?_toArray, List.getElem?_cons_zero, List.getElem?_cons_succ] at r12
  obtain ⟨G13, hG13⟩ : ∃ X, G12.setCell ⟨w.heap.size, 12, none⟩ (.slice none 0 0) = X := ⟨_, rfl⟩
  have e13 : Blk G13 w.heap.size 31 #[.int .i64 0, .int .u64 0, .int .u32 0, .int .u64 0, .int .u64 0, .int .u32 0, .int .u32 0, .int .i64 0, .int .i64 0, .int .u32 0, .slice none 0 0, .slice none 0 0, .slice none 0 0, .slice none 0 0, .int .u32 0] := by rw [← hG13]; exact e12.set_ 12 _
  have j13 : Fr w2 G13 (fun b => b = w.heap.size) := by rw [← hG13]; exact fr_set j12 _ _
  have r13 := e13.cell 13
  have q13 := e13.frozen 13
  simp only [List.getElem?_toArray, List.getElem?_cons_zero, List.getElem?_cons_succ] at r13
  obtain ⟨G14, hG14⟩ : ∃ X, G13.setCell ⟨w.heap.size, 13, none⟩ (.slice none 0 0) = X := ⟨_, rfl⟩
  have e14 : Blk G14 w.heap.size 31 #[.int .i64 0, .int .u64 0, .int .u32 0, .int .u64 0, .int .u64 0, .int .u32 0, .int .u32 0, .int .i64 0, .int .i64 0, .int .u32 0, .slice none 0 0, .slice none 0 0, .slice none 0 0, .slice none 0 0, .int .u32 0] := by rw [← hG14]; exact e13.set_ 13 _
  have j14 : Fr w2 G14 (fun b => b = w.heap.size) := by rw [← hG14]; exact fr_set j13 _ _
  have r14 := e14.cell 14
  have q14 := e14.frozen 14
  simp only [List.getElem?_toArray, List.getElem?_cons_zero, List.getElem?_cons_succ] at r14
  obtain ⟨G, hG15⟩ : ∃ X, G14.setCell ⟨w.heap.size, 14, none⟩ (.int .u32 0) = X := ⟨_, rfl⟩
  have e15 : Blk G w.heap.size 31 #[.int .i64 0, .int .u64 0, .int .u32 0, .int .u64 0, .int .u64 0, .int .u32 0, .int .u32 0, .int .i64 0, .int .i64 0, .int .u32 0, .slice none 0 0, .slice none 0 0, .slice none 0 0, .slice none 0 0, .int .u32 0] := by rw [← hG15]; exact e14.set_ 14 _
  have j15 : Fr w2 G (fun b => b = w.heap.size) := by rw [← hG15]; exact fr_set j14 _ _
  have g0 := e15.cell 0
  have g1 := e15.cell 1
  have g2 := e15.cell 2
  have g3 := e15.cell 3
  have g4 := e15.cell 4
  have g5 := e15.cell 5
  have g6 := e15.cell 6
  have g7 := e15.cell 7
  have g8 := e15.cell 8
  have g9 := e15.cell 9
  have g10 := e15.cell 10
  have g11 := e15.cell 11
  have g12 := e15.cell 12
  have g13 := e15.cell 13
  have g14 := e15.cell 14
  simp only [List.getElem?_toArray, List.getElem?_cons_zero, List.getElem?_cons_succ] at g0 g1 g2 g3 g4 g5 g6 g7 g8 g9 g10 g11 g12 g13 g14
  have HFG := Lib.hid j15
  clear e0 j0 e1 j1 e2 j2 e3 j3 e4 j4 e5 j5 e6 j6 e7 j7 e8 j8 e9 j9 e10 j10 e11 j11 e12 j12 e13 j13 e14 j14 e15 j15
  go_wp2_with fail
  rw [HSS.out]
  refine bodyPost_ret (v := .tuple #[(rz 0).agg, .int .i64 0, .int .i64 5]) (by simp [results, Tryz.results18, go_sem, g0, g1, g2, g3, g4, g5, g6, g7, g8, g9, g10, g11, g12, g13, g14, RV.agg, rz]) rfl ?_
  exact ⟨rz 0, rfl, rfl, rz0_In _ _, HL0.out.trans ((HB2.out.mono HL0.out.size).trans (HFG.out.below (fun b hb => by omega) (by have := HB2.out.size; have := HL0.out.size; omega)))⟩
 by_cases h16 : 16384 < q
 ·have d4 : decide ((q : Int) < 3) = false := decide_eq_false (by omega)
  have d5 : decide (q < 3) = false := decide_eq_false h3
  have d6 : decide ((q : Int) > 16384) = true := decide_eq_true (by omega)
  have d7 : decide (16384 < q) = true := decide_eq_true h16
  have HSS : Hid (s = (zE, 0, 5)) := Lib.hid (by rw [HSQ.out, if_pos (Or.inr h16)])
  clear h3 h16
  have e0 : Blk w2 w.heap.size 31 #[.int .i64 0, .int .u64 0, .int .u32 0, .int .u64 0, .int .u64 0, .int .u32 0, .int .u32 0, .int .i64 0, .int .i64 0, .int .u32 0, .slice none 0 0, .slice none 0 0, .slice none 0 0, .slice none 0 0, .int .u32 0] := HBR2.out
  have j0 : Fr w2 w2 (fun b => b = w.heap.size) := Fr.refl w2 _
  have r0 := e0.cell 0
  have q0 := e0.frozen 0
  simp only [List.getElem?_toArray, List.getElem?_cons_zero] at r0
  obtain ⟨G1, hG1⟩ : ∃ X, w2.setCell ⟨w.heap.size, 0, none⟩ (.int .i64 0) = X := ⟨_, rfl⟩
  have e1 : Blk G1 w.heap.size 31 #[.int .i64 0, .int .u64 0, .int .u32 0, .int .u64 0, .int .u64 0, .int .u32 0, .int .u32 0, .int .i64 0, .int .i64 0, .int .u32 0, .slice none 0 0, .slice none 0 0, .slice none 0 0, .slice none 0 0, .int .u32 0] := by rw [← hG1]; exact e0.set_ 0 _
  have j1 : Fr w2 G1 (fun b => b = w.heap.size) := by rw [← hG1]; exact fr_set j0 _ _
  have r1 := e1.cell 1
  have q1 := e1.frozen 1
  simp only [List.getElem?_toArray, List.getElem?_cons_zero, List.getElem?_cons_succ] at r1
  obtain ⟨G2, hG2⟩ : ∃ X, G1.setCell ⟨w.heap.size, 1, none⟩ (.int .u64 0) = X := ⟨_, rfl⟩
  have e2 : Blk G2 w.heap.size 31 #[.int .i64 0, .int .u64 0, .int .u32 0, .int .u64 0, .int .u64 0, .int .u32 0, .int .u32 0, .int .i64 0, .int .i64 0, .int .u32 0, .slice none 0 0, .slice none 0 0, .slice none 0 0, .slice none 0 0, .int .u32 0] := by rw [← hG2]; exact e1.set_ 1 _
  have j2 : Fr w2 G2 (fun b => b = w.heap.size) := by rw [← hG2]; exact fr_set j1 _ _
  have r2 := e2.cell 2
  have q2 := e2.frozen 2
  simp only [List.getElem?_toArray, List.getElem?_cons_zero, List.getElem?_cons_succ] at r2
  obtain ⟨G3, hG3⟩ : ∃ X, G2.setCell ⟨w.heap.size, 2, none⟩ (.int .u32 0) = X := ⟨_, rfl⟩
  have e3 : Blk G3 w.heap.size 31 #[.int .i64 0, .int .u64 0, .int .u32 0, .int .u64 0, .int .u64 0, .int .u32 0, .int .u32 0, .int .i64 0, .int .i64 0, .int .u32 0, .slice none 0 0, .slice none 0 0, .slice none 0 0, .slice none 0 0, .int .u32 0] := by rw [← hG3]; exact e2.set_ 2 _
  have j3 : Fr w2 G3 (fun b => b = w.heap.size) := by rw [← hG3]; exact fr_set j2 _ _
  have r3 := e3.cell 3
  have q3 := e3.frozen 3
  simp only [List.getElem?_toArray, List.getElem?_cons_zero, List.getElem?_cons_succ] at r3
  obtain ⟨G4, hG4⟩ : ∃ X, G3.setCell ⟨w.heap.size, 3, none⟩ (.int .u64 0) = X := ⟨_, rfl⟩
  have e4 : Blk G4 w.heap.size 31 #[.int .i64 0, .int .u64 0, .int .u32 0, .int .u64 0, .int .u64 0, .int .u32 0, .int .u32 0, .int .i64 0, .int .i64 0, .int .u32 0, .slice none 0 0, .slice none 0 0, .slice none 0 0, .slice none 0 0, .int .u32 0] := by rw [← hG4]; exact e3.set_ 3 _
  have j4 : Fr w2 G4 (fun b => b = w.heap.size) := by rw [← hG4]; exact fr_set j3 _ _
  have r4 := e4.cell 4
  have q4 := e4.frozen 4
  simp only [List.getElem?_toArray, List.getElem?_cons_zero, List.getElem?_cons_succ] at r4
  obtain ⟨G5, hG5⟩ : ∃ X, G4.setCell ⟨w.heap.size, 4, none⟩ (.int .u64 0) = X := ⟨_, rfl⟩
  have e5 : Blk G5 w.heap.size 31 #[.int .i64 0, .int .u64 0, .int .u32 0, .int .u64 0, .int .u64 0, .int .u32 0, .int .u32 0, .int .i64 0, .int .i64 0, .int .u32 0, .slice none 0 0, .slice none 0 0, .slice none 0 0, .slice none 0 0, .int .u32 0] := by rw [← hG5]; exact e4.set_ 4 _
  have j5 : Fr w2 G5 (fun b => b = w.heap.size) := by rw [← hG5]; exact fr_set j4 _ _
  have r5 := e5.cell 5
  have q5 := e5.frozen 5
  simp only [List.getElem?_toArray, List.getElem?_cons_zero, List.getElem?_cons_succ] at r5
  obtain ⟨G6, hG6⟩ : ∃ X, G5.setCell ⟨w.heap.size, 5, none⟩ (.int .u32 0) = X := ⟨_, rfl⟩
  have e6 : Blk G6 w.heap.size 31 #[.int .i64 0, .int .u64 0, .int .u32 0, .int .u64 0, .int .u64 0, .int .u32 0, .int .u32 0, .int .i64 0, .int .i64 0, .int .u32 0, .slice none 0 0, .slice none 0 0, .slice none 0 0, .slice none 0 0, .int .u32 0] := by rw [← hG6]; exact e5.set_ 5 _
  have j6 : Fr w2 G6 (fun b => b = w.heap.size) := by rw [← hG6]; exact fr_set j5 _ _
  have r6 := e6.cell 6
  have q6 := e6.frozen 6
  simp only [List.getElem?_toArray, List.getElem?_cons_zero, List.getElem?_cons_succ] at r6
  obtain ⟨G7, hG7⟩ : ∃ X, G6.setCell ⟨w.heap.size, 6, none⟩ (.int .u32 0) = X := ⟨_, rfl⟩
  have e7 : Blk G7 w.heap.size 31 #[.int .i64 0, .int .u64 0, .int .u32 0, .int .u64 0, .int .u64 0, .int .u32 0, .int .u32 0, .int .i64 0, .int .i64 0, .int .u32 0, .slice none 0 0, .slice none 0 0, .slice none 0 0, .slice none 0 0, .int .u32 0] := by rw [← hG7]; exact e6.set_ 6 _
  have j7 : Fr w2 G7 (fun b => b = w.heap.size) := by rw [← hG7]; exact fr_set j6 _ _
  have r7 := e7.cell 7
  have q7 := e7.frozen 7
  simp only [List.getElem?_toArray, List.getElem?_cons_zero, List.getElem?_cons_succ] at r7
  obtain ⟨G8, hG8⟩ : ∃ X, G7.setCell ⟨w.heap.size, 7, none⟩ (.int .i64 0) = X := ⟨_, rfl⟩
  have e8 : Blk G8 w.heap.size 31 #[.int .i64 0, .int .u64 0, .int .u32 0, .int .u64 0, .int .u64 0, .int .u32 0, .int .u32 0, .int .i64 0, .int .i64 0, .int .u32 0, .slice none 0 0, .slice none 0 0, .slice none 0 0, .slice none 0 0, .int .u32 0] := by rw [← hG8]; exact e7.set_ 7 _
  have j8 : Fr w2 G8 (fun b => b = w.heap.size) := by rw [← hG8]; exact fr_set j7 _ _
  have r8 := e8.cell 8
  have q8 := e8.frozen 8
  simp only [List.getElem?_toArray, List.getElem?_cons_zero, List.getElem?_cons_succ] at r8
  obtain ⟨G9, hG9⟩ : ∃ X, G8.setCell ⟨w.heap.size, 8, none⟩ (.int .i64 0) = X := ⟨_, rfl⟩
  have e9 : Blk G9 w.heap.size 31 #[.int .i64 0, .int .u64 0, .int .u32 0, .int .u64 0, .int .u64 0, .int .u32 0, .int .u32 0, .int .i64 0, .int .i64 0, .int .u32 0, .slice none 0 0, .slice none 0 0, .slice none 0 0, .slice none 0 0, .int .u32 0] := by rw [← hG9]; exact e8.set_ 8 _
  have j9 : Fr w2 G9 (fun b => b = w.heap.size) := by rw [← hG9]; exact fr_set j8 _ _
  have r9 := e9.cell 9
  have q9 := e9.frozen 9
  simp only [List.getElem?_toArray, List.getElem?_cons_zero, List.getElem?_cons_succ] at r9
  obtain ⟨G10, hG10⟩ : ∃ X, G9.setCell ⟨w.heap.size, 9, none⟩ (.int .u32 0) = X := ⟨_, rfl⟩
  have e10 : Blk G10 w.heap.size 31 #[.int .i64 0, .int .u64 0, .int .u32 0, .int .u64 0, .int .u64 0, .int .u32 0, .int .u32 0, .int .i64 0, .int .i64 0, .int .u32 0, .slice none 0 0, .slice none 0 0, .slice none 0 0, .slice none 0 0, .int .u32 0] := by rw [← hG10]; exact e9.set_ 9 _
  have j10 : Fr w2 G10 (fun b => b = w.heap.size) := by rw [← hG10]; exact fr_set j9 _ _
  have r10 := e10.cell 10
  have q10 := e10.frozen 10
  simp only [List.getElem?_toArray, List.getElem?_cons_zero, List.getElem?_cons_succ] at r10
  obtain ⟨G11, hG11⟩ : ∃ X, G10.setCell ⟨w.heap.size, 10, none⟩ (.slice none 0 0) = X := ⟨_, rfl⟩
  have e11 : Blk G11 w.heap.size 31 #[.int .i64 0, .int .u64 0, .int .u32 0, .int .u64 0, .int .u64 0, .int .u32 0, .int .u32 0, .int .i64 0, .int .i64 0, .int .u32 0, .slice none 0 0, .slice none 0 0, .slice none 0 0, .slice none 0 0, .int .u32 0] := by rw [← hG11]; exact e10.set_ 10 _
  have j11 : Fr w2 G11 (fun b => b = w.heap.size) := by rw [← hG11]; exact fr_set j10 _ _
  have r11 := e11.cell 11
  have q11 := e11.frozen 11
  simp only [List.getElem?_toArray, List.getElem?_cons_zero, List.getElem?_cons_succ] at r11
  obtain ⟨G12, hG12⟩ : ∃ X, G11.setCell ⟨w.heap.size, 11, none⟩ (.slice none 0 0) = X := ⟨_, rfl⟩
  have e12 : Blk G12 w.heap.size 31 #[.int .i64 0, .int .u64 0, .int .u32 0, .int .u64 0, .int .u64 0, .int .u32 0, .int .u32 0, .int .i64 0, .int .i64 0, .int .u32 0, .slice none 0 0, .slice none 0 0, .slice none 0 0, .slice none 0 0, .int .u32 0] := by rw [← hG12]; exact e11.set_ 11 _
  have j12 : Fr w2 G12 (fun b => b = w.heap.size) := by rw [← hG12]; exact fr_set j11 _ _
  have r12 := e12.cell 12
  have q12 := e12.frozen 12
  simp only [List.getElem?_toArray, List.getElem?_cons_zero, List.getElem?_cons_succ] at r12
  obtain ⟨G13, hG13⟩ : ∃ X, G12.setCell ⟨w.heap.size, 12, none⟩ (.slice none 0 0) = X := ⟨_, rfl⟩
  have e13 : Blk G13 w.heap.size 31 #[.int .i64 0, .int .u64 0, .int .u32 0, .int .u64 0, .int .u64 0, .int .u32 0, .int .u32 0, .int .i64 0, .int .i64 0, .int .u32 0, .slice none 0 0, .slice none 0 0, .slice none 0 0, .slice none 0 0, .int .u32 0] := by rw [← hG13]; exact e12.set_ 12 _
  have j13 : Fr w2 G13 (fun b => b = w.heap.size) := by rw [← hG13]; exact fr_set j12 _ _
  have r13 := e13.cell 13
  have q13 := e13.frozen 13
  simp only [List.getElem?_toArray, List.getElem?_cons_zero, List.getElem?_cons_succ] at r13
  obtain ⟨G14, hG14⟩ : ∃ X, G13.setCell ⟨w.heap.size, 13, none⟩ (.slice none 0 0) = X := ⟨_, rfl⟩
  have e14 : Blk G14 w.heap.size 31 #[.int .i64 0, .int .u64 0, .int .u32 0, .int .u64 0, .int .u64 0, .int .u32 0, .int .u32 0, .int .i64 0, .int .i64 0, .int .u32 0, .slice none 0 0, .slice none 0 0, .slice none 0 0, .slice none 0 0, .int .u32 0] := by rw [← hG14]; exact e13.set_ 13 _
  have j14 : Fr w2 G14 (fun b => b = w.heap.size) := by rw [← hG14]; exact fr_set j13 _ _
  have r14 := e14.cell 14
  have q14 := e14.frozen 14
  simp only [List.getElem?_toArray, List.getElem?_cons_zero, List.getElem?_cons_succ] at r14
  obtain ⟨G, hG15⟩ : ∃ X, G14.setCell ⟨w.heap.size, 14, none⟩ (.int .u32 0) = X := ⟨_, rfl⟩
  have e15 : Blk G w.heap.size 31 #[.int .i64 0, .int .u64 0, .int .u32 0, .int .u64 0, .int .u64 0, .int .u32 0, .int .u32 0, .int .i64 0, .int .i64 0, .int .u32 0, .slice none 0 0, .slice none 0 0, .slice none 0 0, .slice none 0 0, .int .u32 0] := by rw [← hG15]; exact e14.set_ 14 _
  have j15 : Fr w2 G (fun b => b = w.heap.size) := by rw [← hG15]; exact fr_set j14 _ _
  have g0 := e15.cell 0
  have g1 := e15.cell 1
  have g2 := e15.cell 2
  have g3 := e15.cell 3
  have g4 := e15.cell 4
  have g5 := e15.cell 5
  have g6 := e15.cell 6
  have g7 := e15.cell 7
  have g8 := e15.cell 8
  have g9 := e15.cell 9
  have g10 := e15.cell 10
  have g11 := e15.cell 11
  have g12 := e15.cell 12
  have g13 := e15.cell 13
  have g14 := e15.cell 14
  simp only [List.getElem?_toArray, List.getElem?_cons_zero, List.getElem?_cons_succ] at g0 g1 g2 g3 g4 g5 g6 g7 g8 g9 g10 g11 g12 g13 g14
  have HFG := Lib.hid j15
  clear e0 j0 e1 j1 e2 j2 e3 j3 e4 j4 e5 j5 e6 j6 e7 j7 e8 j8 e9 j9 e10 j10 e11 j11 e12 j12 e13 j13 e14 j14 e15 j15
  go_wp2_with fail
  rw [HSS.out]
  refine bodyPost_ret (v := .tuple #[(rz 0).agg, .int .i64 0, .int .i64 5]) (by simp [results, Tryz.results18, go_sem, g0, g1, g2, g3, g4, g5, g6, g7, g8, g9, g10, g11, g12, g13, g14, RV.agg, rz]) rfl ?_
  exact ⟨rz 0, rfl, rfl, rz0_In _ _, HL0.out.trans ((HB2.out.mono HL0.out.size).trans (HFG.out.below (fun b hb => by omega) (by have := HB2.out.size; have := HL0.out.size; omega)))⟩
 have d4 : decide ((q : Int) < 3) = false := decide_eq_false (by omega)
 have d5 : decide (q < 3) = false := decide_eq_false h3
 have d6 : decide ((q : Int) > 16384) = false := decide_eq_false (by omega)
 have d7 : decide (16384 < q) = false := decide_eq_false h16
 by_cases hnq : n < q
 ·have d8 : decide ((n : Int) < (q : Int)) = true := decide_eq_true (by omega)
  have d9 : decide (n < q) = true := decide_eq_true hnq
  have HSS : Hid (s = (zE, 0, 6)) := Lib.hid (by rw [HSQ.out, if_neg (by omega), if_pos hnq])
  clear h3 h16 hnq
  have e0 : Blk w2 w.heap.size 31 #[.int .i64 0, .int .u64 0, .int .u32 0, .int .u64 0, .int .u64 0, .int .u32 0, .int .u32 0, .int .i64 0, .int .i64 0, .int .u32 0, .slice none 0 0, .slice none 0 0, .slice none 0 0, .slice none 0 0, .int .u32 0] := HBR2.out
  have j0 : Fr w2 w2 (fun b => b = w.heap.size) := Fr.refl w2 _
  have r0 := e0.cell 0
  have q0 := e0.frozen 0
  simp only [List.getElem?_toArray, List.getElem?_cons_zero] at r0
  obtain ⟨G1, hG1⟩ : ∃ X, w2.setCell ⟨w.heap.size, 0, none⟩ (.int .i64 0) = X := ⟨_, rfl⟩
  have e1 : Blk G1 w.heap.size 31 #[.int .i64 0, .int .u64 0, .int .u32 0, .int .u64 0, .int .u64 0, .int .u32 0, .int .u32 0, .int .i64 0, .int .i64 0, .int .u32 0, .slice none 0 0, .slice none 0 0, .slice none 0 0, .slice none 0 0, .int .u32 0] := by rw [← hG1]; exact e0.set_ 0 _
  have j1 : Fr w2 G1 (fun b => b = w.heap.size) := by rw [← hG1]; exact fr_set j0 _ _
  have r1 := e1.cell 1
  have q1 := e1.frozen 1
  simp only [List.getElem?_toArray, List.getElem?_cons_zero, List.getElem?_cons_succ] at r1
  obtain ⟨G2, hG2⟩ : ∃ X, G1.setCell ⟨w.heap.size, 1, none⟩ (.int .u64 0) = X := ⟨_, rfl⟩
  have e2 : Blk G2 w.heap.size 31 #[.int .i64 0, .int .u64 0, .int .u32 0, .int .u64 0, .int .u64 0, .int .u32 0, .int .u32 0, .int .i64 0, .int .i64 0, .int .u32 0, .slice none 0 0, .slice none 0 0, .slice none 0 0, .slice none 0 0, .int .u32 0] := by rw [← hG2]; exact e1.set_ 1 _
  have j2 : Fr w2 G2 (fun b => b = w.heap.size) := by rw [← hG2]; exact fr_set j1 _ _
  have r2 := e2.cell 2
  have q2 := e2.frozen 2
  simp only [List.getElem?_toArray, List.getElem?_cons_zero, List.getElem?_cons_succ] at r2
  obtain ⟨G3, hG3⟩ : ∃ X, G2.setCell ⟨w.heap.size, 2, none⟩ (.int .u32 0) = X := ⟨_, rfl⟩
  have e3 : Blk G3 w.heap.size 31 #[.int .i64 0, .int .u64 0, .int .u32 0, .int .u64 0, .int .u64 0, .int .u32 0, .int .u32 0, .int .i64 0, .int .i64 0, .int .u32 0, .slice none 0 0, .slice none 0 0, .slice none 0 0, .slice none 0 0, .int .u32 0] := by rw [← hG3]; exact e2.set_ 2 _
  have j3 : Fr w2 G3 (fun b => b = w.heap.size) := by rw [← hG3]; exact fr_set j2 _ _
  have r3 := e3.cell 3
  have q3 := e3.frozen 3
  simp only [List.getElem?_toArray, List.getElem?_cons_zero, List.getElem?_cons_succ] at r3
  obtain ⟨G4, hG4⟩ : ∃ X, G3.setCell ⟨w.heap.size, 3, none⟩ (.int .u64 0) = X := ⟨_, rfl⟩
  have e4 : Blk G4 w.heap.size 31 #[.int .i64 0, .int .u64 0, .int .u32 0, .int .u64 0, .int .u64 0, .int .u32 0, .int .u32 0, .int .i64 0, .int .i64 0, .int .u32 0, .slice none 0 0, .slice none 0 0, .slice none 0 0, .slice none 0 0, .int .u32 0] := by rw [← hG4]; exact e3.set_ 3 _
  have j4 : Fr w2 G4 (fun b => b = w.heap.size) := by rw [← hG4]; exact fr_set j3 _ _
  have r4 := e4.cell 4
  have q4 := e4.frozen 4
  simp only [List.getElem?_toArray, List.getElem?_cons_zero, List.getElem?_cons_succ] at r4
  obtain ⟨G5, hG5⟩ : ∃ X, G4.setCell ⟨w.heap.size, 4, none⟩ (.int .u64 0) = X := ⟨_, rfl⟩
  have e5 : Blk G5 w.heap.size 31 #[.int .i64 0, .int .u64 0, .int .u32 0, .int .u64 0, .int .u64 0, .int .u32 0, .int .u32 0, .int .i64 0, .int .i64 0, .int .u32 0, .slice none 0 0, .slice none 0 0, .slice none 0 0, .slice none 0 0, .int .u32 0] := by rw [← hG5]; exact e4.set_ 4 _
  have j5 : Fr w2 G5 (fun b => b = w.heap.size) := by rw [← hG5]; exact fr_set j4 _ _
  have r5 := e5.cell 5
  have q5 := e5.frozen 5
  simp only [List.getElem?_toArray, List.getElem?_cons_zero, List.getElem?_cons_succ] at r5
  obtain ⟨G6, hG6⟩ : ∃ X, G5.setCell ⟨w.heap.size, 5, none⟩ (.int .u32 0) = X := ⟨_, rfl⟩
  have e6 : Blk G6 w.heap.size 31 #[.int .i64 0, .int .u64 0, .int .u32 0, .int .u64 0, .int .u64 0, .int .u32 0, .int .u32 0, .int .i64 0, .int .i64 0, .int .u32 0, .slice none 0 0, .slice none 0 0, .slice none 0 0, .slice none 0 0, .int .u32 0] := by rw [← hG6]; exact e5.set_ 5 _
  have j6 : Fr w2 G6 (fun b => b = w.heap.size) := by rw [← hG6]; exact fr_set j5 _ _
  have r6 := e6.cell 6
  have q6 := e6.frozen 6
  simp only [List.getElem?_toArray, List.getElem?_cons_zero, List.getElem?_cons_succ] at r6
  obtain ⟨G7, hG7⟩ : ∃ X, G6.setCell ⟨w.heap.size, 6, none⟩ (.int .u32 0) = X := ⟨_, rfl⟩
  have e7 : Blk G7 w.heap.size 31 #[.int .i64 0, .int .u64 0, .int .u32 0, .int .u64 0, .int .u64 0, .int .u32 0, .int .u32 0, .int .i64 0, .int .i64 0, .int .u32 0, .slice none 0 0, .slice none 0 0, .slice none 0 0, .slice none 0 0, .int .u32 0] := by rw [← hG7]; exact e6.set_ 6 _
  have j7 : Fr w2 G7 (fun b => b = w.heap.size) := by rw [← hG7]; exact fr_set j6 _ _
  have r7 := e7.cell 7
  have q7 := e7.frozen 7
  simp only [List.getElem?_toArray, List.getElem?_cons_zero, List.getElem?_cons_succ] at r7
  obtain ⟨G8, hG8⟩ : ∃ X, G7.setCell ⟨w.heap.size, 7, none⟩ (.int .i64 0) = X := ⟨_, rfl⟩
  have e8 : Blk G8 w.heap.size 31 #[.int .i64 0, .int .u64 0, .int .u32 0, .int .u64 0, .int .u64 0, .int .u32 0, .int .u32 0, .int .i64 0, .int .i64 0, .int .u32 0, .slice none 0 0, .slice none 0 0, .slice none 0 0, .slice none 0 0, .int .u32 0] := by rw [← hG8]; exact e7.set_ 7 _
  have j8 : Fr w2 G8 (fun b => b = w.heap.size) := by rw [← hG8]; exact fr_set j7 _ _
  have r8 := e8.cell 8
  have q8 := e8.frozen 8
  simp only [List.getElem?_toArray, List.getElem?_cons_zero, List.getElem?_cons_succ] at r8
  obtain ⟨G9, hG9⟩ : ∃ X, G8.setCell ⟨w.heap.size, 8, none⟩ (.int .i64 0) = X := ⟨_, rfl⟩
  have e9 : Blk G9 w.heap.size 31 #[.int .i64 0, .int .u64 0, .int .u32 0, .int .u64 0, .int .u64 0, .int .u32 0, .int .u32 0, .int .i64 0, .int .i64 0, .int .u32 0, .slice none 0 0, .slice none 0 0, .slice none 0 0, .slice none 0 0, .int .u32 0] := by rw [← hG9]; exact e8.set_ 8 _
  have j9 : Fr w2 G9 (fun b => b = w.heap.size) := by rw [← hG9]; exact fr_set j8 _ _
  have r9 := e9.cell 9
  have q9 := e9.frozen 9
  simp only [List.getElem?_toArray, List.getElem?_cons_zero, List.getElem?_cons_succ] at r9
  obtain ⟨G10, hG10⟩ : ∃ X, G9.setCell ⟨w.heap.size, 9, none⟩ (.int .u32 0) = X := ⟨_, rfl⟩
  have e10 : Blk G10 w.heap.size 31 #[.int .i64 0, .int .u64 0, .int .u32 0, .int .u64 0, .int .u64 0, .int .u32 0, .int .u32 0, .int .i64 0, .int .i64 0, .int .u32 0, .slice none 0 0, .slice none 0 0, .slice none 0 0, .slice none 0 0, .int .u32 0] := by rw [← hG10]; exact e9.set_ 9 _
  have j10 : Fr w2 G10 (fun b => b = w.heap.size) := by rw [← hG10]; exact fr_set j9 _ _
  have r10 := e10.cell 10
  have q10 := e10.frozen 10
  simp only [List.getElem?_toArray, List.getElem?_cons_zero, List.getElem?_cons_succ] at r10
  obtain ⟨G11, hG11⟩ : ∃ X, G10.setCell ⟨w.heap.size, 10, none⟩ (.slice none 0 0) = X := ⟨_, rfl⟩
  have e11 : Blk G11 w.heap.size 31 #[.int .i64 0, .int .u64 0, .int .u32 0, .int .u64 0, .int .u64 0, .int .u32 0, .int .u32 0, .int .i64 0, .int .i64 0, .int .u32 0, .slice none 0 0, .slice none 0 0, .slice none 0 0, .slice none 0 0, .int .u32 0] := by rw [← hG11]; exact e10.set_ 10 _
  have j11 : Fr w2 G11 (fun b => b = w.heap.size) := by rw [← hG11]; exact fr_set j10 _ _
  have r11 := e11.cell 11
  have q11 := e11.frozen 11
  simp only [List.getElem?_toArray, List.getElem?_cons_zero, List.getElem?_cons_succ] at r11
  obtain ⟨G12, hG12⟩ : ∃ X, G11.setCell ⟨w.heap.size, 11, none⟩ (.slice none 0 0) = X := ⟨_, rfl⟩
  have e12 : Blk G12 w.heap.size 31 #[.int .i64 0, .int .u64 0, .int .u32 0, .int .u64 0, .int .u64 0, .int .u32 0, .int .u32 0, .int .i64 0, .int .i64 0, .int .u32 0, .slice none 0 0, .slice none 0 0, .slice none 0 0, .slice none 0 0, .int .u32 0] := by rw [← hG12]; exact e11.set_ 11 _
  have j12 : Fr w2 G12 (fun b => b = w.heap.size) := by rw [← hG12]; exact fr_set j11 _ _
  have r12 := e12.cell 12
  have q12 := e12.frozen 12
  simp only [List.getElem?_toArray, List.getElem?_cons_zero, List.getElem?_cons_succ] at r12
  obtain ⟨G13, hG13⟩ : ∃ X, G12.setCell ⟨w.heap.size, 12, none⟩ (.slice none 0 0) = X := ⟨_, rfl⟩
  have e13 : Blk G13 w.heap.size 31 #[.int .i64 0, .int .u64 0, .int .u32 0, .int .u64 0, .int .u64 0, .int .u32 0, .int .u32 0, .int .i64 0, .int .i64 0, .int .u32 0, .slice none 0 0, .slice none 0 0, .slice none 0 0, .slice none 0 0, .int .u32 0] := by rw [← hG13]; exact e12.set_ 12 _
  have j13 : Fr w2 G13 (fun b => b = w.heap.size) := by rw [← hG13]; exact fr_set j12 _ _
  have r13 := e13.cell 13
  have q13 := e13.frozen 13
  simp only [List.getElem?_toArray, List.getElem?_cons_zero, List.getElem?_cons_succ] at r13
  obtain ⟨G14, hG14⟩ : ∃ X, G13.setCell ⟨w.heap.size, 13, none⟩ (.slice none 0 0) = X := ⟨_, rfl⟩
  have e14 : Blk G14 w.heap.size 31 #[.int .i64 0, .int .u64 0, .int .u32 0, .int .u64 0, .int .u64 0, .int .u32 0, .int .u32 0, .int .i64 0, .int .i64 0, .int .u32 0, .slice none 0 0, .slice none 0 0, .slice none 0 0, .slice none 0 0, .int .u32 0] := by rw [← hG14]; exact e13.set_ 13 _
  have j14 : Fr w2 G14 (fun b => b = w.heap.size) := by rw [← hG14]; exact fr_set j13 _ _
  have r14 := e14.cell 14
  have q14 := e14.frozen 14
  simp only [List.getElem?_toArray, List.getElem?_cons_zero, List.getElem?_cons_succ] at r14
  obtain ⟨G, hG15⟩ : ∃ X, G14.setCell ⟨w.heap.size, 14, none⟩ (.int .u32 0) = X := ⟨_, rfl⟩
  have e15 : Blk G w.heap.size 31 #[.int .i64 0, .int .u64 0, .int .u32 0, .int .u64 0, .int .u64 0, .int .u32 0, .int .u32 0, .int .i64 0, .int .i64 0, .int .u32 0, .slice none 0 0, .slice none 0 0, .slice none 0 0, .slice none 0 0, .int .u32 0] := by rw [← hG15]; exact e14.set_ 14 _
  have j15 : Fr w2 G (fun b => b = w.heap.size) := by rw [← hG15]; exact fr_set j14 _ _
  have g0 := e15.cell 0
  have g1 := e15.cell 1
  have g2 := e15.cell 2
  have g3 := e15.cell 3
  have g4 := e15.cell 4
  have g5 := e15.cell 5
  have g6 := e15.cell 6
  have g7 := e15.cell 7
  have g8 := e15.cell 8
  have g9 := e15.cell 9
  have g10 := e15.cell 10
  have g11 := e15.cell 11
  have g12 := e15.cell 12
  have g13 := e15.cell 13
  have g14 := e15.cell 14
  simp only [List.getElem?_toArray, List.getElem?_cons_zero, List.getElem?_cons_succ] at g0 g1 g2 g3 g4 g5 g6 g7 g8 g9 g10 g11 g12 g13 g14
  have HFG := Lib.hid j15
  clear e0 j0 e1 j1 e2 j2 e3 j3 e4 j4 e5 j5 e6 j6 e7 j7 e8 j8 e9 j9 e10 j10 e11 j11 e12 j12 e13 j13 e14 j14 e15 j15
  go_wp2_with fail
  rw [HSS.out]
  refine bodyPost_ret (v := .tuple #[(rz 0).agg, .int .i64 0, .int .i64 6]) (by simp [results, Tryz.results18, go_sem, g0, g1, g2, g3, g4, g5, g6, g7, g8, g9, g10, g11, g12, g13, g14, RV.agg, rz]) rfl ?_
  exact ⟨rz 0, rfl, rfl, rz0_In _ _, HL0.out.trans ((HB2.out.mono HL0.out.size).trans (HFG.out.below (fun b hb => by omega) (by have := HB2.out.size; have := HL0.out.size; omega)))⟩
 exact absurd HBD.out (by rw [← HQ.out]; omega)
set_option maxHeartbeats 16000000 in
theorem decode_s3 (w : World) (A : Option Addr) (n c : Nat) (l : List Nat) (hr : RB w All A n l) (hnc : n ≤ c) (hlo : n ≤ 140737488351232) (h2 : ¬ n < 2) (hok : ¬ (Cd.unfix (l.take 2) < 3 ∨ 16384 < Cd.unfix (l.take 2) ∨ n < Cd.unfix (l.take 2))) : Calls Tryz.prog 18 #[.slice A n c] w (DecR w l) := by
 have hlen := hr.len
 have HR := Lib.hid hr
 have HLEN := Lib.hid hlen
 have HNC := Lib.hid (And.intro hnc hlo)
 obtain ⟨s, hs⟩ : ∃ s, s = decR l := ⟨_, rfl⟩
 unfold DecR
 rw [← hs]
 have HS := Lib.hid hs
 obtain ⟨W0, hW0⟩ : ∃ W0, w.alloc (.cells #[.int .i64 0, .int .u64 0, .int .u32 0, .int .u64 0, .int .u64 0, .int .u32 0, .int .u32 0, .int .i64 0, .int .i64 0, .int .u32 0, .slice none 0 0, .slice none 0 0, .slice none 0 0, .slice none 0 0, .int .u32 0] 31) = W0 := ⟨_, rfl⟩
 have HB0 : Hid (Blk W0 w.heap.size 31 #[.int .i64 0, .int .u64 0, .int .u32 0, .int .u64 0, .int .u64 0, .int .u32 0, .int .u32 0, .int .i64 0, .int .i64 0, .int .u32 0, .slice none 0 0, .slice none 0 0, .slice none 0 0, .slice none 0 0, .int .u32 0]) := Lib.hid (by rw [← hW0]; exact Blk.new w 31 _)
 have HL0 : Hid (Below w.heap.size w W0) := Lib.hid (by rw [← hW0]; exact (Below.refl _ _).alloc (Nat.le_refl _) _)
 have HSZ0 : Hid (W0.heap.size = w.heap.size + 1) := Lib.hid (by rw [← hW0]; simp)
 have HR0 := Lib.hid (hr.keep (Fr.of_below HL0.out No) fun _ _ hn => hn)
 clear hr hnc hlo hs hlen
 have HOK := Lib.hid hok
 clear hok
 have d1 : decide ((n : Int) < 2) = false := decide_eq_false (by omega)
 have d2 : decide (n < 2) = false := decide_eq_false h2
 obtain ⟨ad, hA⟩ : ∃ ad, A = some ad := by
  obtain ⟨ad, h, _⟩ := HR.out.2.2 (by omega)
  exact ⟨ad, h⟩
 subst hA
 have h2c : ((2 : Int) ≤ (c : Int)) := by have := HNC.out.1; omega
 have d3 : decide ((2 : Int) ≤ (c : Int)) = true := decide_eq_true h2c
 have HN2 := Lib.hid h2
 have HNR := Lib.hid (newReader_any W0 All (some ad) 2 c (l.take 2) (HR0.out.take (by omega)) (by decide))
 clear h2
 go_enter Tryz.func18, Tryz.ntmps18
 go_wp2_with fail
 with_reducible refine HNR.out.mono ?_
 rintro e w1 ⟨p0, rfl, hr1, hb1⟩
 have HU := ru16_any w1 _ (some p0) true (l.take 2) hr1
 have hval : valO true (fixO (l.take 2) 2) 0 = Cd.unfix (l.take 2) := by
  have h9 := HLEN.out
  have h8 := HN2.out
  unfold fixO
  rw [show takeO (l.take 2) ((2 : Nat) : Int) = some ((l.take 2).take 2, 2) from takeO_yes (by rw [List.length_take]; omega)]
  simp [valO, List.take_take]
 rw [hval] at HU
 obtain ⟨q, hq⟩ : ∃ q, q = Cd.unfix (l.take 2) := ⟨_, rfl⟩
 have hq16 : q < 65536 := by
  have h9 := Cd.unfix_lt (l.take 2) fun x hx => HR.out.2.1 x (List.mem_of_mem_take hx)
  have h8 : (l.take 2).length ≤ 2 := by rw [List.length_take]; omega
  have h7 : 256 ^ (l.take 2).length ≤ 256 ^ 2 := Nat.pow_le_pow_right (by decide) h8
  rw [hq]
  exact Nat.lt_of_lt_of_le h9 (Nat.le_trans h7 (by decide))
 rw [← hq] at HU
 have HQ := Lib.hid hq
 have HU' := Lib.hid HU
 have HB1 := Lib.hid hb1
 have hwq : IntKind.i64.wrap (q : Int) = (q : Int) := IntWalk.i64_in _ (by omega)
 have HSQ : Hid (s = if q < 3 ∨ 16384 < q then (zE, 0, 5) else if n < q then (zE, 0, 6) else if bytesE (readR ((l.take q).drop 2)) = l.take q then (readR ((l.take q).drop 2), q, 0) else (zE, 0, 5)) := Lib.hid (by
  have h9 := HLEN.out
  have h8 := HN2.out
  rw [HS.out]; unfold decR; rw [if_neg (by omega), ← hq, h9])
 clear hr1 hb1 HU hval hq
 go_wp2_with fail
 with_reducible refine HU'.out.mono ?_
 rintro e w2 ⟨rfl, hg2⟩
 have hb2 : Below W0.heap.size W0 w2 := HB1.out.trans (hg2.2.below (fun b hb => hb) HB1.out.size)
 have HB2 := Lib.hid hb2
 have HBR2 := Lib.hid (HB0.out.below hb2 HB0.out.lt)
 clear hg2 hb2
 have hok := HOK.out
 rw [← HQ.out] at hok
 have h3 : ¬ q < 3 := by omega
 have h16 : ¬ 16384 < q := by omega
 have hnq : ¬ n < q := by omega
 clear hok
 have d4 : decide ((q : Int) < 3) = false := decide_eq_false (by omega)
 have d5 : decide (q < 3) = false := decide_eq_false h3
 have d6 : decide ((q : Int) > 16384) = false := decide_eq_false (by omega)
 have d7 : decide (16384 < q) = false := decide_eq_false h16
 have d8 : decide ((n : Int) < (q : Int)) = false := decide_eq_false (by omega)
 have d9 : decide (n < q) = false := decide_eq_false hnq
 have HSS : Hid (s = if bytesE (readR ((l.take q).drop 2)) = l.take q then (readR ((l.take q).drop 2), q, 0) else (zE, 0, 5)) := Lib.hid (by rw [HSQ.out, if_neg (by omega), if_neg hnq])
 have HQB := Lib.hid (show 3 ≤ q ∧ q ≤ 16384 ∧ q ≤ n from ⟨by omega, by omega, by omega⟩)
 have hqc : ((q : Int) ≤ (c : Int)) := by have := HNC.out.1; omega
 have hqc2 : decide ((q : Int) ≤ (c : Int)) = true := decide_eq_true hqc
 have hqc3 : decide (q ≤ c) = true := decide_eq_true (by omega)
 have h2q : ((2 : Int) ≤ (q : Int)) := by omega
 have h2q2 : decide ((2 : Int) ≤ (q : Int)) = true := decide_eq_true h2q
 have hc3 : ¬ (c = 2) := by have := HNC.out.1; omega
 have HTK : Hid (RB w2 All (some ad) q (l.take q)) := Lib.hid ((HR0.out.keep (Fr.of_below HB2.out No) fun _ _ hn => hn).take (by omega))
 have hrd : RB w2 All (some (ad.add 2)) (q - 2) ((l.take q).drop 2) := by
  have h9 := HTK.out.drop (k := 2) (c := c) (by omega) (by omega)
  rw [if_neg hc3] at h9
  exact h9
 have HRD := Lib.hid (read_any w2 All (some (ad.add 2)) (q - 2) (c - 2) ((l.take q).drop 2) hrd (by rw [hrd.len]; omega))
 have HRDL := Lib.hid hrd.len
 clear hrd h3 h16 hnq
 go_wp2_with fail
 refine HRD.out.mono ?_
 unfold ReadR
 rintro e w3 ⟨rv, rfl, hre, hri, hb3⟩
 have HRE := Lib.hid hre
 have HRI := Lib.hid hri
 have HB3 := Lib.hid hb3
 obtain ⟨w4, hw4⟩ : ∃ w4, w3.alloc (.cells (rcs rv) 31) = w4 := ⟨_, rfl⟩
 have HX4 : Hid (Blk w4 w3.heap.size 31 (rcs rv)) := Lib.hid (by rw [← hw4]; exact Blk.new w3 31 _)
 have hb34 : Below w3.heap.size w3 w4 := by rw [← hw4]; exact (Below.refl _ _).alloc (Nat.le_refl _) _
 have HB4 := Lib.hid hb34
 have hri4 := hri.up (Fr.of_below hb34 No) fun _ _ hn => hn
 have hri5 := (hri4.keep ((Fr.refl w4 No).drew) fun _ _ hn => hn).mono (T' := All) fun _ _ _ => trivial
 have hbrf := readR_brief ((l.take q).drop 2) (by rw [HRDL.out]; have := HQB.out; omega)
 have HBY := Lib.hid (bytesOf_any w4.drew rv hri5 (Brief.of_e hri5 (by rw [hre]; exact hbrf.1)))
 have HRI4 := Lib.hid hri4
 have HTK4 := Lib.hid ((HTK.out.keep (Fr.of_below hb3 No) fun _ _ hn => hn).keep (Fr.of_below hb34 No) fun _ _ hn => hn)
 have HBR4 := Lib.hid ((HBR2.out.below hb3 (by have := HBR2.out.lt; exact this)).below hb34 (by have := HBR2.out.lt; have := hb3.size; omega))
 clear hre hri hb3 hb34 hri4 hri5 hbrf
 obtain ⟨bl, hbl⟩ : ∃ bl, bl = bytesR rv := ⟨_, rfl⟩
 rw [← hbl] at HBY
 have HBL := Lib.hid hbl
 clear hbl
 obtain ⟨vk, vs, vt, va, vb, vpg, vrt, ⟨vok, vos, vot, voA, vom, voc, vod⟩, viA, vim, vic, vil, vlA, vlm, vlc, vll, vdA, vdm, vdc, vdl, vnx⟩ := rv
 simp only [rcs] at hw4
 simp only [RV.agg] at HBY ⊢
 go_upto_region 9 with fail
 refine wp_region_held_drew (S := fun wx => Fr w4 wx No) (by kernel_rfl) ((Fr.refl w4 No).drew) (fun hS => ?_)
 refine wpAnyH_take (i := 0) (v := ?_) rfl (by kernel_rfl) (by kernel_rfl) (by kernel_rfl) (fun _ _ _ h => h) (Or.inl ⟨by rfl, ?_⟩) hS ?_
 rotate_left
 ·(intro wq hSw; obtain ⟨y0, y1, y2, y3, y4, y5, y6, y7, y8, y9, y10, y11, y12, y13, y14⟩ := rcs_cells (HX4.out.keep hSw fun h => h); simp only at y0 y1 y2 y3 y4 y5 y6 y7 y8 y9 y10 y11 y12 y13 y14; go_simp; try with_reducible rfl)
 refine wpAnyH_take (i := 2) (v := ?_) rfl (by kernel_rfl) (by kernel_rfl) (by kernel_rfl) (fun _ _ _ h => h) (Or.inl ⟨by rfl, ?_⟩) hS ?_
 rotate_left
 ·(intro wq hSw; go_simp; try with_reducible rfl)
 simp only [List.getElem_toArray, Act.put]
 refine wpAnyH_take (i := 3) (v := ?_) rfl (by kernel_rfl) (by kernel_rfl) (by kernel_rfl) (fun _ _ _ h => h) (Or.inl ⟨by rfl, ?_⟩) hS ?_
 rotate_left
 ·(intro wq hSw; go_simp; try with_reducible rfl)
 simp only [List.getElem_toArray, Act.put]
 refine wpAnyH_take (i := 4) (v := ?_) rfl (by kernel_rfl) (by kernel_rfl) (by kernel_rfl) (fun _ _ _ h => h) (Or.inl ⟨by rfl, ?_⟩) hS ?_
 rotate_left
 ·(intro wq hSw; go_simp; try with_reducible rfl)
 simp only [List.getElem_toArray, Act.put]
 refine wpAnyH_ready (rs := [1]) (by kernel_rfl) (by simp) ?_
 refine AllReadyH.cons rfl (fun K hK => ?_) AllReadyH.nil
 go_simp
 refine HBY.out.mono ?_
 rintro e w5 ⟨v, rfl, hown, hb5⟩
 obtain ⟨A5, c5, rfl, _, _, hrb5⟩ := hown.reads
 have hb45 : Below w4.heap.size w4 w5 := ((Below.refl w4.heap.size w4).drew).trans hb5
 have HB5 := Lib.hid hb45
 have HEQ := Lib.hid (equal_any A5 (some ad) bl.length c5 q c bl (l.take q) w5 hrb5 (HTK4.out.keep (Fr.of_below hb45 No) fun _ _ hn => hn))
 have HLT : Hid (∀ x ∈ bl, x < 256) := Lib.hid hrb5.2.1
 refine hK.out _ _ ?_ (fun hS => ?_)
 ·exact hS.trans (Fr.of_below hb5 No) fun _ hn => hn.elim
 clear hK K hown hb5 hb45 hrb5
 refine wpAnyH_ready (rs := [5]) (by kernel_rfl) (by simp) ?_
 refine AllReadyH.cons rfl (fun K hK => ?_) AllReadyH.nil
 go_simp
 refine HEQ.out.mono ?_
 rintro e w6 ⟨rfl, rfl⟩
 refine hK.out _ _ hS (fun hS => ?_)
 clear hK K
 refine wpAnyH_ready (rs := [6]) (by kernel_rfl) (by simp) ?_
 refine AllReadyH.cons rfl (fun K hK => ?_) AllReadyH.nil
 go_simp
 refine hK.out _ _ hS (fun hS => ?_)
 clear hK K
 refine wpAnyH_done (by kernel_rfl) ?_ _
 clear hS
 have hsq : seq bl (l.take q) = decide (bl = l.take q) := seq_iff HLT.out (fun x hx => HR.out.2.1 x (List.mem_of_mem_take hx))
 obtain ⟨b, hb⟩ : ∃ b, b = seq bl (l.take q) := ⟨_, rfl⟩
 rw [← hb] at hsq ⊢
 have HSB : Hid (b = decide (bytesE (readR ((l.take q).drop 2)) = l.take q)) := Lib.hid (by rw [hsq, HBL.out, bytes_e HRI.out, HRE.out])
 have HBR6 := Lib.hid (HBR4.out.below HB5.out (by have := HBR4.out.lt; exact this))
 have HX6 := Lib.hid (HX4.out.below HB5.out (by have := HX4.out.lt; exact this))
 have HRI6 := Lib.hid (HRI4.out.up (Fr.of_below HB5.out No) fun _ _ hn => hn)
 have HW6 := Lib.hid (HL0.out.trans ((HB2.out.mono HL0.out.size).trans ((HB3.out.mono (Nat.le_trans HL0.out.size HB2.out.size)).trans (((HB4.out.mono (Nat.le_trans (Nat.le_trans HL0.out.size HB2.out.size) HB3.out.size))).trans (HB5.out.mono (Nat.le_trans (Nat.le_trans (Nat.le_trans HL0.out.size HB2.out.size) HB3.out.size) HB4.out.size))))))
 clear hsq hb hw4
 cases b with
 | false =>
   have HS0 : Hid (s = (zE, 0, 5)) := Lib.hid (by rw [HSS.out, if_neg (of_decide_eq_false HSB.out.symm)])
   have e0 : Blk w5 w.heap.size 31 #[.int .i64 0, .int .u64 0, .int .u32 0, .int .u64 0, .int .u64 0, .int .u32 0, .int .u32 0, .int .i64 0, .int .i64 0, .int .u32 0, .slice none 0 0, .slice none 0 0, .slice none 0 0, .slice none 0 0, .int .u32 0] := HBR6.out
   have j0 : Fr w5 w5 (fun b => b = w.heap.size) := Fr.refl w5 _
   have r0 := e0.cell 0
   have q0 := e0.frozen 0
   simp only [List.getElem?_toArray, List.getElem?_cons_zero] at r0
   obtain ⟨G1, hG1⟩ : ∃ X, w5.setCell ⟨w.heap.size, 0, none⟩ (.int .i64 0) = X := ⟨_, rfl⟩
   have e1 : Blk G1 w.heap.size 31 #[.int .i64 0, .int .u64 0, .int .u32 0, .int .u64 0, .int .u64 0, .int .u32 0, .int .u32 0, .int .i64 0, .int .i64 0, .int .u32 0, .slice none 0 0, .slice none 0 0, .slice none 0 0, .slice none 0 0, .int .u32 0] := by rw [← hG1]; exact e0.set_ 0 _
   have j1 : Fr w5 G1 (fun b => b = w.heap.size) := by rw [← hG1]; exact fr_set j0 _ _
   have r1 := e1.cell 1
   have q1 := e1.frozen 1
   simp only [List.getElem?_toArray, List.getElem?_cons_zero, List.getElem?_cons_succ] at r1
   obtain ⟨G2, hG2⟩ : ∃ X, G1.setCell ⟨w.heap.size, 1, none⟩ (.int .u64 0) = X := ⟨_, rfl⟩
   have e2 : Blk G2 w.heap.size 31 #[.int .i64 0, .int .u64 0, .int .u32 0, .int .u64 0, .int .u64 0, .int .u32 0, .int .u32 0, .int .i64 0, .int .i64 0, .int .u32 0, .slice none 0 0, .slice none 0 0, .slice none 0 0, .slice none 0 0, .int .u32 0] := by rw [← hG2]; exact e1.set_ 1 _
   have j2 : Fr w5 G2 (fun b => b = w.heap.size) := by rw [← hG2]; exact fr_set j1 _ _
   have r2 := e2.cell 2
   have q2 := e2.frozen 2
   simp only [List.getElem?_toArray, List.getElem?_cons_zero, List.getElem?_cons_succ] at r2
   obtain ⟨G3, hG3⟩ : ∃ X, G2.setCell ⟨w.heap.size, 2, none⟩ (.int .u32 0) = X := ⟨_, rfl⟩
   have e3 : Blk G3 w.heap.size 31 #[.int .i64 0, .int .u64 0, .int .u32 0, .int .u64 0, .int .u64 0, .int .u32 0, .int .u32 0, .int .i64 0, .int .i64 0, .int .u32 0, .slice none 0 0, .slice none 0 0, .slice none 0 0, .slice none 0 0, .int .u32 0] := by rw [← hG3]; exact e2.set_ 2 _
   have j3 : Fr w5 G3 (fun b => b = w.heap.size) := by rw [← hG3]; exact fr_set j2 _ _
   have r3 := e3.cell 3
   have q3 := e3.frozen 3
   simp only [List.getElem?_toArray, List.getElem?_cons_zero, List.getElem?_cons_succ] at r3
   obtain ⟨G4, hG4⟩ : ∃ X, G3.setCell ⟨w.heap.size, 3, none⟩ (.int .u64 0) = X := ⟨_, rfl⟩
   have e4 : Blk G4 w.heap.size 31 #[.int .i64 0, .int .u64 0, .int .u32 0, .int .u64 0, .int .u64 0, .int .u32 0, .int .u32 0, .int .i64 0, .int .i64 0, .int .u32 0, .slice none 0 0, .slice none 0 0, .slice none 0 0, .slice none 0 0, .int .u32 0] := by rw [← hG4]; exact e3.set_ 3 _
   have j4 : Fr w5 G4 (fun b => b = w.heap.size) := by rw [← hG4]; exact fr_set j3 _ _
   have r4 := e4.cell 4
   have q4 := e4.frozen 4
   simp only [List.getElem?_toArray, List.getElem?_cons_zero, List.getElem?_cons_succ] at r4
   obtain ⟨G5, hG5⟩ : ∃ X, G4.setCell ⟨w.heap.size, 4, none⟩ (.int .u64 0) = X := ⟨_, rfl⟩
   have e5 : Blk G5 w.heap.size 31 #[.int .i64 0, .int .u64 0, .int .u32 0, .int .u64 0, .int .u64 0, .int .u32 0, .int .u32 0, .int .i64 0, .int .i64 0, .int .u32 0, .slice none 0 0, .slice none 0 0, .slice none 0 0, .slice none 0 0, .int .u32 0] := by rw [← hG5]; exact e4.set_ 4 _
   have j5 : Fr w5 G5 (fun b => b = w.heap.size) := by rw [← hG5]; exact fr_set j4 _ _
   have r5 := e5.cell 5
   have q5 := e5.frozen 5
   simp only [List.getElem?_toArray, List.getElem?_cons_zero, List.getElem?_cons_succ] at r5
   obtain ⟨G6, hG6⟩ : ∃ X, G5.setCell ⟨w.heap.size, 5, none⟩ (.int .u32 0) = X := ⟨_, rfl⟩
   have e6 : Blk G6 w.heap.size 31 #[.int .i64 0, .int .u64 0, .int .u32 0, .int .u64 0, .int .u64 0, .int .u32 0, .int .u32 0, .int .i64 0, .int .i64 0, .int .u32 0, .slice none 0 0, .slice none 0 0, .slice none 0 0, .slice none 0 0, .int .u32 0] := by rw [← hG6]; exact e5.set_ 5 _
   have j6 : Fr w5 G6 (fun b => b = w.heap.size) := by rw [← hG6]; exact fr_set j5 _ _
   have r6 := e6.cell 6
   have q6 := e6.frozen 6
   simp only [List.getElem?_toArray, List.getElem?_cons_zero, List.getElem?_cons_succ] at r6
   obtain ⟨G7, hG7⟩ : ∃ X, G6.setCell ⟨w.heap.size, 6, none⟩ (.int .u32 0) = X := ⟨_, rfl⟩
   have e7 : Blk G7 w.heap.size 31 #[.int .i64 0, .int .u64 0, .int .u32 0, .int .u64 0, .int .u64 0, .int .u32 0, .int .u32 0, .int .i64 0, .int .i64 0, .int .u32 0, .slice none 0 0, .slice none 0 0, .slice none 0 0, .slice none 0 0, .int .u32 0] := by rw [← hG7]; exact e6.set_ 6 _
   have j7 : Fr w5 G7 (fun b => b = w.heap.size) := by rw [← hG7]; exact fr_set j6 _ _
   have r7 := e7.cell 7
   have q7 := e7.frozen 7
   simp only [List.getElem?_toArray, List.getElem?_cons_zero, List.getElem?_cons_succ] at r7
   obtain ⟨G8, hG8⟩ : ∃ X, G7.setCell ⟨w.heap.size, 7, none⟩ (.int .i64 0) = X := ⟨_, rfl⟩
   have e8 : Blk G8 w.heap.size 31 #[.int .i64 0, .int .u64 0, .int .u32 0, .int .u64 0, .int .u64 0, .int .u32 0, .int .u32 0, .int .i64 0, .int .i64 0, .int .u32 0, .slice none 0 0, .slice none 0 0, .slice none 0 0, .slice none 0 0, .int .u32 0] := by rw [← hG8]; exact e7.set_ 7 _
   have j8 : Fr w5 G8 (fun b => b = w.heap.size) := by rw [← hG8]; exact fr_set j7 _ _
   have r8 := e8.cell 8
   have q8 := e8.frozen 8
   simp only [List.getElem?_toArray, List.getElem?_cons_zero, List.getElem?_cons_succ] at r8
   obtain ⟨G9, hG9⟩ : ∃ X, G8.setCell ⟨w.heap.size, 8, none⟩ (.int .i64 0) = X := ⟨_, rfl⟩
   have e9 : Blk G9 w.heap.size 31 #[.int .i64 0, .int .u64 0, .int .u32 0, .int .u64 0, .int .u64 0, .int .u32 0, .int .u32 0, .int .i64 0, .int .i64 0, .int .u32 0, .slice none 0 0, .slice none 0 0, .slice none 0 0, .slice none 0 0, .int .u32 0] := by rw [← hG9]; exact e8.set_ 8 _
   have j9 : Fr w5 G9 (fun b => b = w.heap.size) := by rw [← hG9]; exact fr_set j8 _ _
   have r9 := e9.cell 9
   have q9 := e9.frozen 9
   simp only [List.getElem?_toArray, List.getElem?_cons_zero, List.getElem?_cons_succ] at r9
   obtain ⟨G10, hG10⟩ : ∃ X, G9.setCell ⟨w.heap.size, 9, none⟩ (.int .u32 0) = X := ⟨_, rfl⟩
   have e10 : Blk G10 w.heap.size 31 #[.int .i64 0, .int .u64 0, .int .u32 0, .int .u64 0, .int .u64 0, .int .u32 0, .int .u32 0, .int .i64 0, .int .i64 0, .int .u32 0, .slice none 0 0, .slice none 0 0, .slice none 0 0, .slice none 0 0, .int .u32 0] := by rw [← hG10]; exact e9.set_ 9 _
   have j10 : Fr w5 G10 (fun b => b = w.heap.size) := by rw [← hG10]; exact fr_set j9 _ _
   have r10 := e10.cell 10
   have q10 := e10.frozen 10
   simp only [List.getElem?_toArray, List.getElem?_cons_zero, List.getElem?_cons_succ] at r10
   obtain ⟨G11, hG11⟩ : ∃ X, G10.setCell ⟨w.heap.size, 10, none⟩ (.slice none 0 0) = X := ⟨_, rfl⟩
   have e11 : Blk G11 w.heap.size 31 #[.int .i64 0, .int .u64 0, .int .u32 0, .int .u64 0, .int .u64 0, .int .u32 0, .int .u32 0, .int .i64 0, .int .i64 0, .int .u32 0, .slice none 0 0, .slice none 0 0, .slice none 0 0, .slice none 0 0, .int .u32 0] := by rw [← hG11]; exact e10.set_ 10 _
   have j11 : Fr w5 G11 (fun b => b = w.heap.size) := by rw [← hG11]; exact fr_set j10 _ _
   have r11 := e11.cell 11
   have q11 := e11.frozen 11
   simp only [List.getElem?_toArray, List.getElem?_cons_zero, List.getElem?_cons_succ] at r11
   obtain ⟨G12, hG12⟩ : ∃ X, G11.setCell ⟨w.heap.size, 11, none⟩ (.slice none 0 0) = X := ⟨_, rfl⟩
   have e12 : Blk G12 w.heap.size 31 #[.int .i64 0, .int .u64 0, .int .u32 0, .int .u64 0, .int .u64 0, .int .u32 0, .int .u32 0, .int .i64 0, .int .i64 0, .int .u32 0, .slice none 0 0, .slice none 0 0, .slice none 0 0, .slice none 0 0, .int .u32 0] := by rw [← hG12]; exact e11.set_ 11 _
   have j12 : Fr w5 G12 (fun b => b = w.heap.size) := by rw [← hG12]; exact fr_set j11 _ _
   have r12 := e12.cell 12
   have q12 := e12.frozen 12
   simp only [List.getElem?_toArray, List.getElem?_cons_zero, List.getElem?_cons_succ] at r12
   obtain ⟨G13, hG13⟩ : ∃ X, G12.setCell ⟨w.heap.size, 12, none⟩ (.slice none 0 0) = X := ⟨_, rfl⟩
   have e13 : Blk G13 w.heap.size 31 #[.int .i64 0, .int .u64 0, .int .u32 0, .int .u64 0, .int .u64 0, .int .u32 0, .int .u32 0, .int .i64 0, .int .i64 0, .int .u32 0, .slice none 0 0, .slice none 0 0, .slice none 0 0, .slice none 0 0, .int .u32 0] := by rw [← hG13]; exact e12.set_ 12 _
   have j13 : Fr w5 G13 (fun b => b = w.heap.size) := by rw [← hG13]; exact fr_set j12 _ _
   have r13 := e13.cell 13
   have q13 := e13.frozen 13
   simp only [List.getElem?_toArray, List.getElem?_cons_zero, List.getElem?_cons_succ] at r13
   obtain ⟨G14, hG14⟩ : ∃ X, G13.setCell ⟨w.heap.size, 13, none⟩ (.slice none 0 0) = X := ⟨_, rfl⟩
   have e14 : Blk G14 w.heap.size 31 #[.int .i64 0, .int .u64 0, .int .u32 0, .int .u64 0, .int .u64 0, .int .u32 0, .int .u32 0, .int .i64 0, .int .i64 0, .int .u32 0, .slice none 0 0, .slice none 0 0, .slice none 0 0, .slice none 0 0, .int .u32 0] := by rw [← hG14]; exact e13.set_ 13 _
   have j14 : Fr w5 G14 (fun b => b = w.heap.size) := by rw [← hG14]; exact fr_set j13 _ _
   have r14 := e14.cell 14
   have q14 := e14.frozen 14
   simp only [List.getElem?_toArray, List.getElem?_cons_zero, List.getElem?_cons_succ] at r14
   obtain ⟨G, hG15⟩ : ∃ X, G14.setCell ⟨w.heap.size, 14, none⟩ (.int .u32 0) = X := ⟨_, rfl⟩
   have e15 : Blk G w.heap.size 31 #[.int .i64 0, .int .u64 0, .int .u32 0, .int .u64 0, .int .u64 0, .int .u32 0, .int .u32 0, .int .i64 0, .int .i64 0, .int .u32 0, .slice none 0 0, .slice none 0 0, .slice none 0 0, .slice none 0 0, .int .u32 0] := by rw [← hG15]; exact e14.set_ 14 _
   have j15 : Fr w5 G (fun b => b = w.heap.size) := by rw [← hG15]; exact fr_set j14 _ _
   have g0 := e15.cell 0
   have g1 := e15.cell 1
   have g2 := e15.cell 2
   have g3 := e15.cell 3
   have g4 := e15.cell 4
   have g5 := e15.cell 5
   have g6 := e15.cell 6
   have g7 := e15.cell 7
   have g8 := e15.cell 8
   have g9 := e15.cell 9
   have g10 := e15.cell 10
   have g11 := e15.cell 11
   have g12 := e15.cell 12
   have g13 := e15.cell 13
   have g14 := e15.cell 14
   simp only [List.getElem?_toArray, List.getElem?_cons_zero, List.getElem?_cons_succ] at g0 g1 g2 g3 g4 g5 g6 g7 g8 g9 g10 g11 g12 g13 g14
   have HFG := Lib.hid j15
   clear e0 j0 e1 j1 e2 j2 e3 j3 e4 j4 e5 j5 e6 j6 e7 j7 e8 j8 e9 j9 e10 j10 e11 j11 e12 j12 e13 j13 e14 j14 e15 j15
   go_wp2_with fail
   rw [HS0.out]
   refine bodyPost_ret (v := .tuple #[(rz 0).agg, .int .i64 0, .int .i64 5]) (by simp [results, Tryz.results18, go_sem, g0, g1, g2, g3, g4, g5, g6, g7, g8, g9, g10, g11, g12, g13, g14, RV.agg, rz]) rfl ?_
   exact ⟨rz 0, rfl, rfl, rz0_In _ _, HW6.out.trans (HFG.out.below (fun b hb => by omega) HW6.out.size)⟩
 | true =>
   have HS0 : Hid (s = (readR ((l.take q).drop 2), q, 0)) := Lib.hid (by rw [HSS.out, if_pos (of_decide_eq_true HSB.out.symm)])
   obtain ⟨y0, y1, y2, y3, y4, y5, y6, y7, y8, y9, y10, y11, y12, y13, y14⟩ := rcs_cells HX6.out
   simp only at y0 y1 y2 y3 y4 y5 y6 y7 y8 y9 y10 y11 y12 y13 y14
   have e0 : Blk w5 w.heap.size 31 #[.int .i64 0, .int .u64 0, .int .u32 0, .int .u64 0, .int .u64 0, .int .u32 0, .int .u32 0, .int .i64 0, .int .i64 0, .int .u32 0, .slice none 0 0, .slice none 0 0, .slice none 0 0, .slice none 0 0, .int .u32 0] := HBR6.out
   have j0 : Fr w5 w5 (fun b => b = w.heap.size) := Fr.refl w5 _
   have r0 := e0.cell 0
   have q0 := e0.frozen 0
   simp only [List.getElem?_toArray, List.getElem?_cons_zero] at r0
   obtain ⟨G1, hG1⟩ : ∃ X, w5.setCell ⟨w.heap.size, 0, none⟩ (.int .i64 vk) = X := ⟨_, rfl⟩
   have e1 : Blk G1 w.heap.size 31 #[.int .i64 vk, .int .u64 0, .int .u32 0, .int .u64 0, .int .u64 0, .int .u32 0, .int .u32 0, .int .i64 0, .int .i64 0, .int .u32 0, .slice none 0 0, .slice none 0 0, .slice none 0 0, .slice none 0 0, .int .u32 0] := by rw [← hG1]; exact e0.set_ 0 _
   have j1 : Fr w5 G1 (fun b => b = w.heap.size) := by rw [← hG1]; exact fr_set j0 _ _
   have r1 := e1.cell 1
   have q1 := e1.frozen 1
   simp only [List.getElem?_toArray, List.getElem?_cons_zero, List.getElem?_cons_succ] at r1
   obtain ⟨G2, hG2⟩ : ∃ X, G1.setCell ⟨w.heap.size, 1, none⟩ (.int .u64 (vs : Int)) = X := ⟨_, rfl⟩
   have e2 : Blk G2 w.heap.size 31 #[.int .i64 vk, .int .u64 (vs : Int), .int .u32 0, .int .u64 0, .int .u64 0, .int .u32 0, .int .u32 0, .int .i64 0, .int .i64 0, .int .u32 0, .slice none 0 0, .slice none 0 0, .slice none 0 0, .slice none 0 0, .int .u32 0] := by rw [← hG2]; exact e1.set_ 1 _
   have j2 : Fr w5 G2 (fun b => b = w.heap.size) := by rw [← hG2]; exact fr_set j1 _ _
   have r2 := e2.cell 2
   have q2 := e2.frozen 2
   simp only [List.getElem?_toArray, List.getElem?_cons_zero, List.getElem?_cons_succ] at r2
   obtain ⟨G3, hG3⟩ : ∃ X, G2.setCell ⟨w.heap.size, 2, none⟩ (.int .u32 (vt : Int)) = X := ⟨_, rfl⟩
   have e3 : Blk G3 w.heap.size 31 #[.int .i64 vk, .int .u64 (vs : Int), .int .u32 (vt : Int), .int .u64 0, .int .u64 0, .int .u32 0, .int .u32 0, .int .i64 0, .int .i64 0, .int .u32 0, .slice none 0 0, .slice none 0 0, .slice none 0 0, .slice none 0 0, .int .u32 0] := by rw [← hG3]; exact e2.set_ 2 _
   have j3 : Fr w5 G3 (fun b => b = w.heap.size) := by rw [← hG3]; exact fr_set j2 _ _
   have r3 := e3.cell 3
   have q3 := e3.frozen 3
   simp only [List.getElem?_toArray, List.getElem?_cons_zero, List.getElem?_cons_succ] at r3
   obtain ⟨G4, hG4⟩ : ∃ X, G3.setCell ⟨w.heap.size, 3, none⟩ (.int .u64 (va : Int)) = X := ⟨_, rfl⟩
   have e4 : Blk G4 w.heap.size 31 #[.int .i64 vk, .int .u64 (vs : Int), .int .u32 (vt : Int), .int .u64 (va : Int), .int .u64 0, .int .u32 0, .int .u32 0, .int .i64 0, .int .i64 0, .int .u32 0, .slice none 0 0, .slice none 0 0, .slice none 0 0, .slice none 0 0, .int .u32 0] := by rw [← hG4]; exact e3.set_ 3 _
   have j4 : Fr w5 G4 (fun b => b = w.heap.size) := by rw [← hG4]; exact fr_set j3 _ _
   have r4 := e4.cell 4
   have q4 := e4.frozen 4
   simp only [List.getElem?_toArray, List.getElem?_cons_zero, List.getElem?_cons_succ] at r4
   obtain ⟨G5, hG5⟩ : ∃ X, G4.setCell ⟨w.heap.size, 4, none⟩ (.int .u64 (vb : Int)) = X := ⟨_, rfl⟩
   have e5 : Blk G5 w.heap.size 31 #[.int .i64 vk, .int .u64 (vs : Int), .int .u32 (vt : Int), .int .u64 (va : Int), .int .u64 (vb : Int), .int .u32 0, .int .u32 0, .int .i64 0, .int .i64 0, .int .u32 0, .slice none 0 0, .slice none 0 0, .slice none 0 0, .slice none 0 0, .int .u32 0] := by rw [← hG5]; exact e4.set_ 4 _
   have j5 : Fr w5 G5 (fun b => b = w.heap.size) := by rw [← hG5]; exact fr_set j4 _ _
   have r5 := e5.cell 5
   have q5 := e5.frozen 5
   simp only [List.getElem?_toArray, List.getElem?_cons_zero, List.getElem?_cons_succ] at r5
   obtain ⟨G6, hG6⟩ : ∃ X, G5.setCell ⟨w.heap.size, 5, none⟩ (.int .u32 (vpg : Int)) = X := ⟨_, rfl⟩
   have e6 : Blk G6 w.heap.size 31 #[.int .i64 vk, .int .u64 (vs : Int), .int .u32 (vt : Int), .int .u64 (va : Int), .int .u64 (vb : Int), .int .u32 (vpg : Int), .int .u32 0, .int .i64 0, .int .i64 0, .int .u32 0, .slice none 0 0, .slice none 0 0, .slice none 0 0, .slice none 0 0, .int .u32 0] := by rw [← hG6]; exact e5.set_ 5 _
   have j6 : Fr w5 G6 (fun b => b = w.heap.size) := by rw [← hG6]; exact fr_set j5 _ _
   have r6 := e6.cell 6
   have q6 := e6.frozen 6
   simp only [List.getElem?_toArray, List.getElem?_cons_zero, List.getElem?_cons_succ] at r6
   obtain ⟨G7, hG7⟩ : ∃ X, G6.setCell ⟨w.heap.size, 6, none⟩ (.int .u32 (vrt : Int)) = X := ⟨_, rfl⟩
   have e7 : Blk G7 w.heap.size 31 #[.int .i64 vk, .int .u64 (vs : Int), .int .u32 (vt : Int), .int .u64 (va : Int), .int .u64 (vb : Int), .int .u32 (vpg : Int), .int .u32 (vrt : Int), .int .i64 0, .int .i64 0, .int .u32 0, .slice none 0 0, .slice none 0 0, .slice none 0 0, .slice none 0 0, .int .u32 0] := by rw [← hG7]; exact e6.set_ 6 _
   have j7 : Fr w5 G7 (fun b => b = w.heap.size) := by rw [← hG7]; exact fr_set j6 _ _
   have r7 := e7.cell 7
   have q7 := e7.frozen 7
   simp only [List.getElem?_toArray, List.getElem?_cons_zero, List.getElem?_cons_succ] at r7
   obtain ⟨G8, hG8⟩ : ∃ X, G7.setCell ⟨w.heap.size, 7, none⟩ (.int .i64 vok) = X := ⟨_, rfl⟩
   have e8 : Blk G8 w.heap.size 31 #[.int .i64 vk, .int .u64 (vs : Int), .int .u32 (vt : Int), .int .u64 (va : Int), .int .u64 (vb : Int), .int .u32 (vpg : Int), .int .u32 (vrt : Int), .int .i64 vok, .int .i64 0, .int .u32 0, .slice none 0 0, .slice none 0 0, .slice none 0 0, .slice none 0 0, .int .u32 0] := by rw [← hG8]; exact e7.set_ 7 _
   have j8 : Fr w5 G8 (fun b => b = w.heap.size) := by rw [← hG8]; exact fr_set j7 _ _
   have r8 := e8.cell 8
   have q8 := e8.frozen 8
   simp only [List.getElem?_toArray, List.getElem?_cons_zero, List.getElem?_cons_succ] at r8
   obtain ⟨G9, hG9⟩ : ∃ X, G8.setCell ⟨w.heap.size, 8, none⟩ (.int .i64 vos) = X := ⟨_, rfl⟩
   have e9 : Blk G9 w.heap.size 31 #[.int .i64 vk, .int .u64 (vs : Int), .int .u32 (vt : Int), .int .u64 (va : Int), .int .u64 (vb : Int), .int .u32 (vpg : Int), .int .u32 (vrt : Int), .int .i64 vok, .int .i64 vos, .int .u32 0, .slice none 0 0, .slice none 0 0, .slice none 0 0, .slice none 0 0, .int .u32 0] := by rw [← hG9]; exact e8.set_ 8 _
   have j9 : Fr w5 G9 (fun b => b = w.heap.size) := by rw [← hG9]; exact fr_set j8 _ _
   have r9 := e9.cell 9
   have q9 := e9.frozen 9
   simp only [List.getElem?_toArray, List.getElem?_cons_zero, List.getElem?_cons_succ] at r9
   obtain ⟨G10, hG10⟩ : ∃ X, G9.setCell ⟨w.heap.size, 9, none⟩ (.int .u32 (vot : Int)) = X := ⟨_, rfl⟩
   have e10 : Blk G10 w.heap.size 31 #[.int .i64 vk, .int .u64 (vs : Int), .int .u32 (vt : Int), .int .u64 (va : Int), .int .u64 (vb : Int), .int .u32 (vpg : Int), .int .u32 (vrt : Int), .int .i64 vok, .int .i64 vos, .int .u32 (vot : Int), .slice none 0 0, .slice none 0 0, .slice none 0 0, .slice none 0 0, .int .u32 0] := by rw [← hG10]; exact e9.set_ 9 _
   have j10 : Fr w5 G10 (fun b => b = w.heap.size) := by rw [← hG10]; exact fr_set j9 _ _
   have r10 := e10.cell 10
   have q10 := e10.frozen 10
   simp only [List.getElem?_toArray, List.getElem?_cons_zero, List.getElem?_cons_succ] at r10
   obtain ⟨G11, hG11⟩ : ∃ X, G10.setCell ⟨w.heap.size, 10, none⟩ (.slice voA vom voc) = X := ⟨_, rfl⟩
   have e11 : Blk G11 w.heap.size 31 #[.int .i64 vk, .int .u64 (vs : Int), .int .u32 (vt : Int), .int .u64 (va : Int), .int .u64 (vb : Int), .int .u32 (vpg : Int), .int .u32 (vrt : Int), .int .i64 vok, .int .i64 vos, .int .u32 (vot : Int), .slice voA vom voc, .slice none 0 0, .slice none 0 0, .slice none 0 0, .int .u32 0] := by rw [← hG11]; exact e10.set_ 10 _
   have j11 : Fr w5 G11 (fun b => b = w.heap.size) := by rw [← hG11]; exact fr_set j10 _ _
   have r11 := e11.cell 11
   have q11 := e11.frozen 11
   simp only [List.getElem?_toArray, List.getElem?_cons_zero, List.getElem?_cons_succ] at r11
   obtain ⟨G12, hG12⟩ : ∃ X, G11.setCell ⟨w.heap.size, 11, none⟩ (.slice viA vim vic) = X := ⟨_, rfl⟩
   have e12 : Blk G12 w.heap.size 31 #[.int .i64 vk, .int .u64 (vs : Int), .int .u32 (vt : Int), .int .u64 (va : Int), .int .u64 (vb : Int), .int .u32 (vpg : Int), .int .u32 (vrt : Int), .int .i64 vok, .int .i64 vos, .int .u32 (vot : Int), .slice voA vom voc, .slice viA vim vic, .slice none 0 0, .slice none 0 0, .int .u32 0] := by rw [← hG12]; exact e11.set_ 11 _
   have j12 : Fr w5 G12 (fun b => b = w.heap.size) := by rw [← hG12]; exact fr_set j11 _ _
   have r12 := e12.cell 12
   have q12 := e12.frozen 12
   simp only [List.getElem?_toArray, List.getElem?_cons_zero, List.getElem?_cons_succ] at r12
   obtain ⟨G13, hG13⟩ : ∃ X, G12.setCell ⟨w.heap.size, 12, none⟩ (.slice vlA vlm vlc) = X := ⟨_, rfl⟩
   have e13 : Blk G13 w.heap.size 31 #[.int .i64 vk, .int .u64 (vs : Int), .int .u32 (vt : Int), .int .u64 (va : Int), .int .u64 (vb : Int), .int .u32 (vpg : Int), .int .u32 (vrt : Int), .int .i64 vok, .int .i64 vos, .int .u32 (vot : Int), .slice voA vom voc, .slice viA vim vic, .slice vlA vlm vlc, .slice none 0 0, .int .u32 0] := by rw [← hG13]; exact e12.set_ 12 _
   have j13 : Fr w5 G13 (fun b => b = w.heap.size) := by rw [← hG13]; exact fr_set j12 _ _
   have r13 := e13.cell 13
   have q13 := e13.frozen 13
   simp only [List.getElem?_toArray, List.getElem?_cons_zero, List.getElem?_cons_succ] at r13
   obtain ⟨G14, hG14⟩ : ∃ X, G13.setCell ⟨w.heap.size, 13, none⟩ (.slice vdA vdm vdc) = X := ⟨_, rfl⟩
   have e14 : Blk G14 w.heap.size 31 #[.int .i64 vk, .int .u64 (vs : Int), .int .u32 (vt : Int), .int .u64 (va : Int), .int .u64 (vb : Int), .int .u32 (vpg : Int), .int .u32 (vrt : Int), .int .i64 vok, .int .i64 vos, .int .u32 (vot : Int), .slice voA vom voc, .slice viA vim vic, .slice vlA vlm vlc, .slice vdA vdm vdc, .int .u32 0] := by rw [← hG14]; exact e13.set_ 13 _
   have j14 : Fr w5 G14 (fun b => b = w.heap.size) := by rw [← hG14]; exact fr_set j13 _ _
   have r14 := e14.cell 14
   have q14 := e14.frozen 14
   simp only [List.getElem?_toArray, List.getElem?_cons_zero, List.getElem?_cons_succ] at r14
   obtain ⟨G, hG15⟩ : ∃ X, G14.setCell ⟨w.heap.size, 14, none⟩ (.int .u32 (vnx : Int)) = X := ⟨_, rfl⟩
   have e15 : Blk G w.heap.size 31 #[.int .i64 vk, .int .u64 (vs : Int), .int .u32 (vt : Int), .int .u64 (va : Int), .int .u64 (vb : Int), .int .u32 (vpg : Int), .int .u32 (vrt : Int), .int .i64 vok, .int .i64 vos, .int .u32 (vot : Int), .slice voA vom voc, .slice viA vim vic, .slice vlA vlm vlc, .slice vdA vdm vdc, .int .u32 (vnx : Int)] := by rw [← hG15]; exact e14.set_ 14 _
   have j15 : Fr w5 G (fun b => b = w.heap.size) := by rw [← hG15]; exact fr_set j14 _ _
   have g0 := e15.cell 0
   have g1 := e15.cell 1
   have g2 := e15.cell 2
   have g3 := e15.cell 3
   have g4 := e15.cell 4
   have g5 := e15.cell 5
   have g6 := e15.cell 6
   have g7 := e15.cell 7
   have g8 := e15.cell 8
   have g9 := e15.cell 9
   have g10 := e15.cell 10
   have g11 := e15.cell 11
   have g12 := e15.cell 12
   have g13 := e15.cell 13
   have g14 := e15.cell 14
   simp only [List.getElem?_toArray, List.getElem?_cons_zero, List.getElem?_cons_succ] at g0 g1 g2 g3 g4 g5 g6 g7 g8 g9 g10 g11 g12 g13 g14
   have HFG := Lib.hid j15
   clear e0 j0 e1 j1 e2 j2 e3 j3 e4 j4 e5 j5 e6 j6 e7 j7 e8 j8 e9 j9 e10 j10 e11 j11 e12 j12 e13 j13 e14 j14 e15 j15
   go_wp2_with fail
   rw [HS0.out]
   refine bodyPost_ret (v := .tuple #[(⟨vk, vs, vt, va, vb, vpg, vrt, ⟨vok, vos, vot, voA, vom, voc, vod⟩, viA, vim, vic, vil, vlA, vlm, vlc, vll, vdA, vdm, vdc, vdl, vnx⟩ : RV).agg, .int .i64 (q : Int), .int .i64 0]) (by simp [results, Tryz.results18, go_sem, g0, g1, g2, g3, g4, g5, g6, g7, g8, g9, g10, g11, g12, g13, g14, RV.agg]) rfl ?_
   refine ⟨⟨vk, vs, vt, va, vb, vpg, vrt, ⟨vok, vos, vot, voA, vom, voc, vod⟩, viA, vim, vic, vil, vlA, vlm, vlc, vll, vdA, vdm, vdc, vdl, vnx⟩, rfl, HRE.out, ?_, HW6.out.trans (HFG.out.below (fun b hb => by omega) HW6.out.size)⟩
   have hlo : w.heap.size < w2.heap.size := by have := HB2.out.size; have := HSZ0.out; omega
   exact (HRI6.out.up HFG.out fun b hb he => by omega).mono fun b _ hb => ⟨by have := hb.1; omega, hb.2⟩
theorem decode_any (w : World) (A : Option Addr) (n c : Nat) (l : List Nat) (hr : RB w All A n l) (hnc : n ≤ c) (hlo : n ≤ 140737488351232) : Calls Tryz.prog 18 #[.slice A n c] w (DecR w l) := by
 by_cases h2 : n < 2
 ·exact decode_s1 w A n c l hr hnc hlo h2
 ·by_cases hb : Cd.unfix (l.take 2) < 3 ∨ 16384 < Cd.unfix (l.take 2) ∨ n < Cd.unfix (l.take 2)
  ·exact decode_s2 w A n c l hr hnc hlo h2 hb
  ·exact decode_s3 w A n c l hr hnc hlo h2 hb
end Go.Proofs.YtdhgbkibbileiaaGreat
