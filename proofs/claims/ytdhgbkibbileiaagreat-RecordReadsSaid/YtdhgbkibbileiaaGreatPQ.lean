/-
PQ
-/
import Derived.Test.YtdhgbkibbileiaaGreatPJ
set_option maxRecDepth 100000
namespace Go.Proofs.YtdhgbkibbileiaaGreat
open Go.RowKit
def dataOk (m : Nat) : Bool := decide (1 ≤ m) && decide (m ≤ 180)
def rightP (kd k s : Int) (t m : Nat) : Bool :=
 if takes kd = false then false else if k < 1 then false else if k > 4 then false else if decide (t = 0) = decide (k = 2) then false else
 if kd = 2 then (if s = 0 then dataOk m else false) else if k = 1 then dataOk m else decide (m = 0)
set_option maxHeartbeats 4000000 in
theorem right_any (kd : Int) (o : OV) (w : World) : Calls Tryz.prog 101 #[.int .i64 kd, o.agg] w fun e w' => e = .returned (.bool (rightP kd o.k o.s o.t o.m)) ∧ Below w.heap.size w w' := by
 obtain ⟨W, hW, hBW, hbx, hsz⟩ := box_op w o
 obtain ⟨y0, y1, y2, y3⟩ := ocs_cells hbx
 have HBW := Lib.hid hBW
 have HT := Lib.hid (takesOps_any kd W)
 have HD := Lib.hid (mayData_any o.A o.m o.c W)
 obtain ⟨k, s, t, A, m, c, d⟩ := o
 simp only at hW y0 y1 y2 y3 HD
 have HD : Hid (Calls Tryz.prog 130 #[.slice A m c] W fun e w' => e = .returned (.bool (dataOk m)) ∧ W = w') := HD
 have m1 : decide ((m : Int) ≥ 1) = decide (1 ≤ m) := by rw [decide_eq_decide]; omega
 have m2 : decide ((m : Int) ≤ 180) = decide (m ≤ 180) := by rw [decide_eq_decide]; omega
 have m3 : ((m : Int) == 0) = decide (m = 0) := by rw [Bool.eq_iff_iff, beq_iff_eq, decide_eq_true_eq]; omega
 clear hBW hbx hsz
 simp only [OV.agg]
 by_cases hk : kd = 1
 ·have e1 : (kd == 1) = true := by rw [beq_iff_eq]; exact hk
  have e1n : (kd != 1) = false := by rw [bne_eq_false_iff_eq]; exact hk
  have e2 : (kd == 2) = false := beq_false_of_ne (by omega)
  have e2n : (kd != 2) = true := bne_iff_ne.2 (by omega)
  have tk : takes kd = true := by unfold takes; rw [e1]; rfl
  rw [tk] at HT
  by_cases kl : k < 1
  ·have a1 : decide (k < 1) = true := decide_eq_true kl
   have HS := Lib.hid (show rightP kd k s t m = false by rw [rightP, if_neg (by rw [tk]; decide), if_pos kl])
   clear hk tk kl
   go_enter Tryz.func101, Tryz.ntmps101
   go_wp2_with (first | (go_at_call 129; refine HT.out.mono ?_; rintro e w' ⟨rfl, rfl⟩) | (go_at_call 130; refine HD.out.mono ?_; rintro e w' ⟨rfl, rfl⟩))
   go_ret
   exact ⟨by rw [HS.out]; first | rfl | simp, HBW.out⟩
  ·have a1 : decide (k < 1) = false := decide_eq_false kl
   by_cases kh : k > 4
   ·have a2 : decide (k > 4) = true := decide_eq_true kh
    have HS := Lib.hid (show rightP kd k s t m = false by rw [rightP, if_neg (by rw [tk]; decide), if_neg kl, if_pos kh])
    clear hk tk kl kh
    go_enter Tryz.func101, Tryz.ntmps101
    go_wp2_with (first | (go_at_call 129; refine HT.out.mono ?_; rintro e w' ⟨rfl, rfl⟩) | (go_at_call 130; refine HD.out.mono ?_; rintro e w' ⟨rfl, rfl⟩))
    go_ret
    exact ⟨by rw [HS.out]; first | rfl | simp, HBW.out⟩
   ·have a2 : decide (k > 4) = false := decide_eq_false kh
    by_cases ht : t = 0
    ·by_cases hk2 : k = 2
     ·have t1 : ((t : Int) == 0) = true := by rw [beq_iff_eq]; omega
      have t1n : ((t : Int) != 0) = false := by rw [bne_eq_false_iff_eq]; omega
      have k2 : (k == 2) = true := by rw [beq_iff_eq]; exact hk2
      have HS := Lib.hid (show rightP kd k s t m = false by rw [rightP, if_neg (by rw [tk]; decide), if_neg kl, if_neg kh, if_pos (by rw [decide_eq_true ht, decide_eq_true hk2])])
      clear hk tk kl kh ht hk2
      go_enter Tryz.func101, Tryz.ntmps101
      go_wp2_with (first | (go_at_call 129; refine HT.out.mono ?_; rintro e w' ⟨rfl, rfl⟩) | (go_at_call 130; refine HD.out.mono ?_; rintro e w' ⟨rfl, rfl⟩))
      go_ret
      exact ⟨by rw [HS.out]; first | rfl | simp, HBW.out⟩
     ·have t1 : ((t : Int) == 0) = true := by rw [beq_iff_eq]; omega
      have t1n : ((t : Int) != 0) = false := by rw [bne_eq_false_iff_eq]; omega
      have k2 : (k == 2) = false := beq_false_of_ne hk2
      by_cases hk1 : k = 1
      ·have q1 : (k == 1) = true := by rw [beq_iff_eq]; exact hk1
       have q1n : (k != 1) = false := by rw [bne_eq_false_iff_eq]; exact hk1
       have HS := Lib.hid (show rightP kd k s t m = dataOk m by rw [rightP, if_neg (by rw [tk]; decide), if_neg kl, if_neg kh, if_neg (by rw [decide_eq_true ht, decide_eq_false hk2]; decide), if_neg (by omega : ¬ kd = 2), if_pos hk1])
       clear hk tk kl kh ht hk2 hk1
       go_enter Tryz.func101, Tryz.ntmps101
       go_wp2_with (first | (go_at_call 129; refine HT.out.mono ?_; rintro e w' ⟨rfl, rfl⟩) | (go_at_call 130; refine HD.out.mono ?_; rintro e w' ⟨rfl, rfl⟩))
       go_ret
       exact ⟨by rw [HS.out]; first | rfl | simp, HBW.out⟩
      ·have q1 : (k == 1) = false := beq_false_of_ne hk1
       have q1n : (k != 1) = true := bne_iff_ne.2 hk1
       have HS := Lib.hid (show rightP kd k s t m = decide (m = 0) by rw [rightP, if_neg (by rw [tk]; decide), if_neg kl, if_neg kh, if_neg (by rw [decide_eq_true ht, decide_eq_false hk2]; decide), if_neg (by omega : ¬ kd = 2), if_neg hk1])
       clear hk tk kl kh ht hk2 hk1
       go_enter Tryz.func101, Tryz.ntmps101
       go_wp2_with (first | (go_at_call 129; refine HT.out.mono ?_; rintro e w' ⟨rfl, rfl⟩) | (go_at_call 130; refine HD.out.mono ?_; rintro e w' ⟨rfl, rfl⟩))
       go_ret
       exact ⟨by rw [HS.out]; first | rfl | simp, HBW.out⟩
    ·by_cases hk2 : k = 2
     ·have t1 : ((t : Int) == 0) = false := beq_false_of_ne (by omega)
      have t1n : ((t : Int) != 0) = true := bne_iff_ne.2 (by omega)
      have k2 : (k == 2) = true := by rw [beq_iff_eq]; exact hk2
      by_cases hk1 : k = 1
      ·have q1 : (k == 1) = true := by rw [beq_iff_eq]; exact hk1
       have q1n : (k != 1) = false := by rw [bne_eq_false_iff_eq]; exact hk1
       have HS := Lib.hid (show rightP kd k s t m = dataOk m by rw [rightP, if_neg (by rw [tk]; decide), if_neg kl, if_neg kh, if_neg (by rw [decide_eq_false ht, decide_eq_true hk2]; decide), if_neg (by omega : ¬ kd = 2), if_pos hk1])
       clear hk tk kl kh ht hk2 hk1
       go_enter Tryz.func101, Tryz.ntmps101
       go_wp2_with (first | (go_at_call 129; refine HT.out.mono ?_; rintro e w' ⟨rfl, rfl⟩) | (go_at_call 130; refine HD.out.mono ?_; rintro e w' ⟨rfl, rfl⟩))
       go_ret
       exact ⟨by rw [HS.out]; first | rfl | simp, HBW.out⟩
      ·have q1 : (k == 1) = false := beq_false_of_ne hk1
       have q1n : (k != 1) = true := bne_iff_ne.2 hk1
       have HS := Lib.hid (show rightP kd k s t m = decide (m = 0) by rw [rightP, if_neg (by rw [tk]; decide), if_neg kl, if_neg kh, if_neg (by rw [decide_eq_false ht, decide_eq_true hk2]; decide), if_neg (by omega : ¬ kd = 2), if_neg hk1])
       clear hk tk kl kh ht hk2 hk1
       go_enter Tryz.func101, Tryz.ntmps101
       go_wp2_with (first | (go_at_call 129; refine HT.out.mono ?_; rintro e w' ⟨rfl, rfl⟩) | (go_at_call 130; refine HD.out.mono ?_; rintro e w' ⟨rfl, rfl⟩))
       go_ret
       exact ⟨by rw [HS.out]; first | rfl | simp, HBW.out⟩
     ·have t1 : ((t : Int) == 0) = false := beq_false_of_ne (by omega)
      have t1n : ((t : Int) != 0) = true := bne_iff_ne.2 (by omega)
      have k2 : (k == 2) = false := beq_false_of_ne hk2
      have HS := Lib.hid (show rightP kd k s t m = false by rw [rightP, if_neg (by rw [tk]; decide), if_neg kl, if_neg kh, if_pos (by rw [decide_eq_false ht, decide_eq_false hk2])])
      clear hk tk kl kh ht hk2
      go_enter Tryz.func101, Tryz.ntmps101
      go_wp2_with (first | (go_at_call 129; refine HT.out.mono ?_; rintro e w' ⟨rfl, rfl⟩) | (go_at_call 130; refine HD.out.mono ?_; rintro e w' ⟨rfl, rfl⟩))
      go_ret
      exact ⟨by rw [HS.out]; first | rfl | simp, HBW.out⟩
 ·by_cases hk2 : kd = 2
  ·have hk := hk2
   clear hk2
   have e1 : (kd == 1) = false := beq_false_of_ne (by omega)
   have e1n : (kd != 1) = true := bne_iff_ne.2 (by omega)
   have e2 : (kd == 2) = true := by rw [beq_iff_eq]; exact hk
   have e2n : (kd != 2) = false := by rw [bne_eq_false_iff_eq]; exact hk
   have tk : takes kd = true := by unfold takes; rw [e1, e2]; rfl
   rw [tk] at HT
   by_cases kl : k < 1
   ·have a1 : decide (k < 1) = true := decide_eq_true kl
    have HS := Lib.hid (show rightP kd k s t m = false by rw [rightP, if_neg (by rw [tk]; decide), if_pos kl])
    clear hk tk kl
    go_enter Tryz.func101, Tryz.ntmps101
    go_wp2_with (first | (go_at_call 129; refine HT.out.mono ?_; rintro e w' ⟨rfl, rfl⟩) | (go_at_call 130; refine HD.out.mono ?_; rintro e w' ⟨rfl, rfl⟩))
    go_ret
    exact ⟨by rw [HS.out]; first | rfl | simp, HBW.out⟩
   ·have a1 : decide (k < 1) = false := decide_eq_false kl
    by_cases kh : k > 4
    ·have a2 : decide (k > 4) = true := decide_eq_true kh
     have HS := Lib.hid (show rightP kd k s t m = false by rw [rightP, if_neg (by rw [tk]; decide), if_neg kl, if_pos kh])
     clear hk tk kl kh
     go_enter Tryz.func101, Tryz.ntmps101
     go_wp2_with (first | (go_at_call 129; refine HT.out.mono ?_; rintro e w' ⟨rfl, rfl⟩) | (go_at_call 130; refine HD.out.mono ?_; rintro e w' ⟨rfl, rfl⟩))
     go_ret
     exact ⟨by rw [HS.out]; first | rfl | simp, HBW.out⟩
    ·have a2 : decide (k > 4) = false := decide_eq_false kh
     by_cases ht : t = 0
     ·by_cases hk2 : k = 2
      ·have t1 : ((t : Int) == 0) = true := by rw [beq_iff_eq]; omega
       have t1n : ((t : Int) != 0) = false := by rw [bne_eq_false_iff_eq]; omega
       have k2 : (k == 2) = true := by rw [beq_iff_eq]; exact hk2
       have HS := Lib.hid (show rightP kd k s t m = false by rw [rightP, if_neg (by rw [tk]; decide), if_neg kl, if_neg kh, if_pos (by rw [decide_eq_true ht, decide_eq_true hk2])])
       clear hk tk kl kh ht hk2
       go_enter Tryz.func101, Tryz.ntmps101
       go_wp2_with (first | (go_at_call 129; refine HT.out.mono ?_; rintro e w' ⟨rfl, rfl⟩) | (go_at_call 130; refine HD.out.mono ?_; rintro e w' ⟨rfl, rfl⟩))
       go_ret
       exact ⟨by rw [HS.out]; first | rfl | simp, HBW.out⟩
      ·have t1 : ((t : Int) == 0) = true := by rw [beq_iff_eq]; omega
       have t1n : ((t : Int) != 0) = false := by rw [bne_eq_false_iff_eq]; omega
       have k2 : (k == 2) = false := beq_false_of_ne hk2
       by_cases hs : s = 0
       ·have s1 : (s == 0) = true := by rw [beq_iff_eq]; exact hs
        have s1n : (s != 0) = false := by rw [bne_eq_false_iff_eq]; exact hs
        have HS := Lib.hid (show rightP kd k s t m = dataOk m by rw [rightP, if_neg (by rw [tk]; decide), if_neg kl, if_neg kh, if_neg (by rw [decide_eq_true ht, decide_eq_false hk2]; decide), if_pos hk, if_pos hs])
        clear hk tk kl kh ht hk2 hs
        go_enter Tryz.func101, Tryz.ntmps101
        go_wp2_with (first | (go_at_call 129; refine HT.out.mono ?_; rintro e w' ⟨rfl, rfl⟩) | (go_at_call 130; refine HD.out.mono ?_; rintro e w' ⟨rfl, rfl⟩))
        go_ret
        exact ⟨by rw [HS.out]; first | rfl | simp, HBW.out⟩
       ·have s1 : (s == 0) = false := beq_false_of_ne hs
        have s1n : (s != 0) = true := bne_iff_ne.2 hs
        have HS := Lib.hid (show rightP kd k s t m = false by rw [rightP, if_neg (by rw [tk]; decide), if_neg kl, if_neg kh, if_neg (by rw [decide_eq_true ht, decide_eq_false hk2]; decide), if_pos hk, if_neg hs])
        clear hk tk kl kh ht hk2 hs
        go_enter Tryz.func101, Tryz.ntmps101
        go_wp2_with (first | (go_at_call 129; refine HT.out.mono ?_; rintro e w' ⟨rfl, rfl⟩) | (go_at_call 130; refine HD.out.mono ?_; rintro e w' ⟨rfl, rfl⟩))
        go_ret
        exact ⟨by rw [HS.out]; first | rfl | simp, HBW.out⟩
     ·by_cases hk2 : k = 2
      ·have t1 : ((t : Int) == 0) = false := beq_false_of_ne (by omega)
       have t1n : ((t : Int) != 0) = true := bne_iff_ne.2 (by omega)
       have k2 : (k == 2) = true := by rw [beq_iff_eq]; exact hk2
       by_cases hs : s = 0
       ·have s1 : (s == 0) = true := by rw [beq_iff_eq]; exact hs
        have s1n : (s != 0) = false := by rw [bne_eq_false_iff_eq]; exact hs
        have HS := Lib.hid (show rightP kd k s t m = dataOk m by rw [rightP, if_neg (by rw [tk]; decide), if_neg kl, if_neg kh, if_neg (by rw [decide_eq_false ht, decide_eq_true hk2]; decide), if_pos hk, if_pos hs])
        clear hk tk kl kh ht hk2 hs
        go_enter Tryz.func101, Tryz.ntmps101
        go_wp2_with (first | (go_at_call 129; refine HT.out.mono ?_; rintro e w' ⟨rfl, rfl⟩) | (go_at_call 130; refine HD.out.mono ?_; rintro e w' ⟨rfl, rfl⟩))
        go_ret
        exact ⟨by rw [HS.out]; first | rfl | simp, HBW.out⟩
       ·have s1 : (s == 0) = false := beq_false_of_ne hs
        have s1n : (s != 0) = true := bne_iff_ne.2 hs
        have HS := Lib.hid (show rightP kd k s t m = false by rw [rightP, if_neg (by rw [tk]; decide), if_neg kl, if_neg kh, if_neg (by rw [decide_eq_false ht, decide_eq_true hk2]; decide), if_pos hk, if_neg hs])
        clear hk tk kl kh ht hk2 hs
        go_enter Tryz.func101, Tryz.ntmps101
        go_wp2_with (first | (go_at_call 129; refine HT.out.mono ?_; rintro e w' ⟨rfl, rfl⟩) | (go_at_call 130; refine HD.out.mono ?_; rintro e w' ⟨rfl, rfl⟩))
        go_ret
        exact ⟨by rw [HS.out]; first | rfl | simp, HBW.out⟩
      ·have t1 : ((t : Int) == 0) = false := beq_false_of_ne (by omega)
       have t1n : ((t : Int) != 0) = true := bne_iff_ne.2 (by omega)
       have k2 : (k == 2) = false := beq_false_of_ne hk2
       have HS := Lib.hid (show rightP kd k s t m = false by rw [rightP, if_neg (by rw [tk]; decide), if_neg kl, if_neg kh, if_pos (by rw [decide_eq_false ht, decide_eq_false hk2])])
       clear hk tk kl kh ht hk2
       go_enter Tryz.func101, Tryz.ntmps101
       go_wp2_with (first | (go_at_call 129; refine HT.out.mono ?_; rintro e w' ⟨rfl, rfl⟩) | (go_at_call 130; refine HD.out.mono ?_; rintro e w' ⟨rfl, rfl⟩))
       go_ret
       exact ⟨by rw [HS.out]; first | rfl | simp, HBW.out⟩
  ·have hk : ¬ (kd = 1 ∨ kd = 2) := fun h => h.elim hk hk2
   clear hk2
   have e1 : (kd == 1) = false := beq_false_of_ne (fun h => hk (Or.inl h))
   have e1n : (kd != 1) = true := bne_iff_ne.2 (fun h => hk (Or.inl h))
   have e2 : (kd == 2) = false := beq_false_of_ne (fun h => hk (Or.inr h))
   have e2n : (kd != 2) = true := bne_iff_ne.2 (fun h => hk (Or.inr h))
   have tk : takes kd = false := by unfold takes; rw [e1, e2]; rfl
   rw [tk] at HT
   have HS := Lib.hid (show rightP kd k s t m = false by rw [rightP, if_pos tk])
   clear hk tk
   go_enter Tryz.func101, Tryz.ntmps101
   go_wp2_with (first | (go_at_call 129; refine HT.out.mono ?_; rintro e w' ⟨rfl, rfl⟩) | (go_at_call 130; refine HD.out.mono ?_; rintro e w' ⟨rfl, rfl⟩))
   go_ret
   exact ⟨by rw [HS.out]; first | rfl | simp, HBW.out⟩
set_option maxHeartbeats 4000000 in
theorem rright_any (kd : Int) (o : OV) (w : World) : Calls Tryz.prog 28 #[.int .i64 kd, o.agg] w fun e w' => e = .returned (.bool (rightP kd o.k o.s o.t o.m)) ∧ Below w.heap.size w w' := by
 obtain ⟨W, hW, hBW, hbx, hsz⟩ := box_op w o
 obtain ⟨y0, y1, y2, y3⟩ := ocs_cells hbx
 have HBW := Lib.hid hBW
 have HT := Lib.hid (takesOps_any kd W)
 have HD := Lib.hid (mayData_any o.A o.m o.c W)
 obtain ⟨k, s, t, A, m, c, d⟩ := o
 simp only at hW y0 y1 y2 y3 HD
 have HD : Hid (Calls Tryz.prog 130 #[.slice A m c] W fun e w' => e = .returned (.bool (dataOk m)) ∧ W = w') := HD
 have m1 : decide ((m : Int) ≥ 1) = decide (1 ≤ m) := by rw [decide_eq_decide]; omega
 have m2 : decide ((m : Int) ≤ 180) = decide (m ≤ 180) := by rw [decide_eq_decide]; omega
 have m3 : ((m : Int) == 0) = decide (m = 0) := by rw [Bool.eq_iff_iff, beq_iff_eq, decide_eq_true_eq]; omega
 clear hBW hbx hsz
 simp only [OV.agg]
 by_cases hk : kd = 1
 ·have e1 : (kd == 1) = true := by rw [beq_iff_eq]; exact hk
  have e1n : (kd != 1) = false := by rw [bne_eq_false_iff_eq]; exact hk
  have e2 : (kd == 2) = false := beq_false_of_ne (by omega)
  have e2n : (kd != 2) = true := bne_iff_ne.2 (by omega)
  have tk : takes kd = true := by unfold takes; rw [e1]; rfl
  rw [tk] at HT
  by_cases kl : k < 1
  ·have a1 : decide (k < 1) = true := decide_eq_true kl
   have HS := Lib.hid (show rightP kd k s t m = false by rw [rightP, if_neg (by rw [tk]; decide), if_pos kl])
   clear hk tk kl
   go_enter Tryz.func28, Tryz.ntmps28
   go_wp2_with fail
   go_ret
   exact ⟨by rw [HS.out]; first | rfl | simp, HBW.out⟩
  ·have a1 : decide (k < 1) = false := decide_eq_false kl
   by_cases kh : k > 4
   ·have a2 : decide (k > 4) = true := decide_eq_true kh
    have HS := Lib.hid (show rightP kd k s t m = false by rw [rightP, if_neg (by rw [tk]; decide), if_neg kl, if_pos kh])
    clear hk tk kl kh
    go_enter Tryz.func28, Tryz.ntmps28
    go_wp2_with fail
    go_ret
    exact ⟨by rw [HS.out]; first | rfl | simp, HBW.out⟩
   ·have a2 : decide (k > 4) = false := decide_eq_false kh
    by_cases ht : t = 0
    ·by_cases hk2 : k = 2
     ·have t1 : ((t : Int) == 0) = true := by rw [beq_iff_eq]; omega
      have t1n : ((t : Int) != 0) = false := by rw [bne_eq_false_iff_eq]; omega
      have k2 : (k == 2) = true := by rw [beq_iff_eq]; exact hk2
      have HS := Lib.hid (show rightP kd k s t m = false by rw [rightP, if_neg (by rw [tk]; decide), if_neg kl, if_neg kh, if_pos (by rw [decide_eq_true ht, decide_eq_true hk2])])
      clear hk tk kl kh ht hk2
      go_enter Tryz.func28, Tryz.ntmps28
      go_wp2_with fail
      go_ret
      exact ⟨by rw [HS.out]; first | rfl | simp, HBW.out⟩
     ·have t1 : ((t : Int) == 0) = true := by rw [beq_iff_eq]; omega
      have t1n : ((t : Int) != 0) = false := by rw [bne_eq_false_iff_eq]; omega
      have k2 : (k == 2) = false := beq_false_of_ne hk2
      by_cases hk1 : k = 1
      ·have q1 : (k == 1) = true := by rw [beq_iff_eq]; exact hk1
       have q1n : (k != 1) = false := by rw [bne_eq_false_iff_eq]; exact hk1
       by_cases hm1 : 1 ≤ m
       ·have m1t : decide ((m : Int) ≥ 1) = true := decide_eq_true (by omega)
        have dk : dataOk m = decide (m ≤ 180) := by unfold dataOk; rw [decide_eq_true hm1]; rfl
        have HS := Lib.hid (show rightP kd k s t m = decide (m ≤ 180) by rw [rightP, if_neg (by rw [tk]; decide), if_neg kl, if_neg kh, if_neg (by rw [decide_eq_true ht, decide_eq_false hk2]; decide), if_neg (by omega : ¬ kd = 2), if_pos hk1, dk])
        clear hk tk kl kh ht hk2 hk1 hm1 dk m1
        go_enter Tryz.func28, Tryz.ntmps28
        go_wp2_with fail
        go_ret
        exact ⟨by rw [HS.out]; first | rfl | simp, HBW.out⟩
       ·have m1f : decide ((m : Int) ≥ 1) = false := decide_eq_false (by omega)
        have dk : dataOk m = false := by unfold dataOk; rw [decide_eq_false hm1]; rfl
        have HS := Lib.hid (show rightP kd k s t m = false by rw [rightP, if_neg (by rw [tk]; decide), if_neg kl, if_neg kh, if_neg (by rw [decide_eq_true ht, decide_eq_false hk2]; decide), if_neg (by omega : ¬ kd = 2), if_pos hk1, dk])
        clear hk tk kl kh ht hk2 hk1 hm1 dk m1
        go_enter Tryz.func28, Tryz.ntmps28
        go_wp2_with fail
        go_ret
        exact ⟨by rw [HS.out]; first | rfl | simp, HBW.out⟩
      ·have q1 : (k == 1) = false := beq_false_of_ne hk1
       have q1n : (k != 1) = true := bne_iff_ne.2 hk1
       have HS := Lib.hid (show rightP kd k s t m = decide (m = 0) by rw [rightP, if_neg (by rw [tk]; decide), if_neg kl, if_neg kh, if_neg (by rw [decide_eq_true ht, decide_eq_false hk2]; decide), if_neg (by omega : ¬ kd = 2), if_neg hk1])
       clear hk tk kl kh ht hk2 hk1
       go_enter Tryz.func28, Tryz.ntmps28
       go_wp2_with fail
       go_ret
       exact ⟨by rw [HS.out]; first | rfl | simp, HBW.out⟩
    ·by_cases hk2 : k = 2
     ·have t1 : ((t : Int) == 0) = false := beq_false_of_ne (by omega)
      have t1n : ((t : Int) != 0) = true := bne_iff_ne.2 (by omega)
      have k2 : (k == 2) = true := by rw [beq_iff_eq]; exact hk2
      by_cases hk1 : k = 1
      ·have q1 : (k == 1) = true := by rw [beq_iff_eq]; exact hk1
       have q1n : (k != 1) = false := by rw [bne_eq_false_iff_eq]; exact hk1
       by_cases hm1 : 1 ≤ m
       ·have m1t : decide ((m : Int) ≥ 1) = true := decide_eq_true (by omega)
        have dk : dataOk m = decide (m ≤ 180) := by unfold dataOk; rw [decide_eq_true hm1]; rfl
        have HS := Lib.hid (show rightP kd k s t m = decide (m ≤ 180) by rw [rightP, if_neg (by rw [tk]; decide), if_neg kl, if_neg kh, if_neg (by rw [decide_eq_false ht, decide_eq_true hk2]; decide), if_neg (by omega : ¬ kd = 2), if_pos hk1, dk])
        clear hk tk kl kh ht hk2 hk1 hm1 dk m1
        go_enter Tryz.func28, Tryz.ntmps28
        go_wp2_with fail
        go_ret
        exact ⟨by rw [HS.out]; first | rfl | simp, HBW.out⟩
       ·have m1f : decide ((m : Int) ≥ 1) = false := decide_eq_false (by omega)
        have dk : dataOk m = false := by unfold dataOk; rw [decide_eq_false hm1]; rfl
        have HS := Lib.hid (show rightP kd k s t m = false by rw [rightP, if_neg (by rw [tk]; decide), if_neg kl, if_neg kh, if_neg (by rw [decide_eq_false ht, decide_eq_true hk2]; decide), if_neg (by omega : ¬ kd = 2), if_pos hk1, dk])
        clear hk tk kl kh ht hk2 hk1 hm1 dk m1
        go_enter Tryz.func28, Tryz.ntmps28
        go_wp2_with fail
        go_ret
        exact ⟨by rw [HS.out]; first | rfl | simp, HBW.out⟩
      ·have q1 : (k == 1) = false := beq_false_of_ne hk1
       have q1n : (k != 1) = true := bne_iff_ne.2 hk1
       have HS := Lib.hid (show rightP kd k s t m = decide (m = 0) by rw [rightP, if_neg (by rw [tk]; decide), if_neg kl, if_neg kh, if_neg (by rw [decide_eq_false ht, decide_eq_true hk2]; decide), if_neg (by omega : ¬ kd = 2), if_neg hk1])
       clear hk tk kl kh ht hk2 hk1
       go_enter Tryz.func28, Tryz.ntmps28
       go_wp2_with fail
       go_ret
       exact ⟨by rw [HS.out]; first | rfl | simp, HBW.out⟩
     ·have t1 : ((t : Int) == 0) = false := beq_false_of_ne (by omega)
      have t1n : ((t : Int) != 0) = true := bne_iff_ne.2 (by omega)
      have k2 : (k == 2) = false := beq_false_of_ne hk2
      have HS := Lib.hid (show rightP kd k s t m = false by rw [rightP, if_neg (by rw [tk]; decide), if_neg kl, if_neg kh, if_pos (by rw [decide_eq_false ht, decide_eq_false hk2])])
      clear hk tk kl kh ht hk2
      go_enter Tryz.func28, Tryz.ntmps28
      go_wp2_with fail
      go_ret
      exact ⟨by rw [HS.out]; first | rfl | simp, HBW.out⟩
 ·by_cases hk2 : kd = 2
  ·have hk := hk2
   clear hk2
   have e1 : (kd == 1) = false := beq_false_of_ne (by omega)
   have e1n : (kd != 1) = true := bne_iff_ne.2 (by omega)
   have e2 : (kd == 2) = true := by rw [beq_iff_eq]; exact hk
   have e2n : (kd != 2) = false := by rw [bne_eq_false_iff_eq]; exact hk
   have tk : takes kd = true := by unfold takes; rw [e1, e2]; rfl
   rw [tk] at HT
   by_cases kl : k < 1
   ·have a1 : decide (k < 1) = true := decide_eq_true kl
    have HS := Lib.hid (show rightP kd k s t m = false by rw [rightP, if_neg (by rw [tk]; decide), if_pos kl])
    clear hk tk kl
    go_enter Tryz.func28, Tryz.ntmps28
    go_wp2_with fail
    go_ret
    exact ⟨by rw [HS.out]; first | rfl | simp, HBW.out⟩
   ·have a1 : decide (k < 1) = false := decide_eq_false kl
    by_cases kh : k > 4
    ·have a2 : decide (k > 4) = true := decide_eq_true kh
     have HS := Lib.hid (show rightP kd k s t m = false by rw [rightP, if_neg (by rw [tk]; decide), if_neg kl, if_pos kh])
     clear hk tk kl kh
     go_enter Tryz.func28, Tryz.ntmps28
     go_wp2_with fail
     go_ret
     exact ⟨by rw [HS.out]; first | rfl | simp, HBW.out⟩
    ·have a2 : decide (k > 4) = false := decide_eq_false kh
     by_cases ht : t = 0
     ·by_cases hk2 : k = 2
      ·have t1 : ((t : Int) == 0) = true := by rw [beq_iff_eq]; omega
       have t1n : ((t : Int) != 0) = false := by rw [bne_eq_false_iff_eq]; omega
       have k2 : (k == 2) = true := by rw [beq_iff_eq]; exact hk2
       have HS := Lib.hid (show rightP kd k s t m = false by rw [rightP, if_neg (by rw [tk]; decide), if_neg kl, if_neg kh, if_pos (by rw [decide_eq_true ht, decide_eq_true hk2])])
       clear hk tk kl kh ht hk2
       go_enter Tryz.func28, Tryz.ntmps28
       go_wp2_with fail
       go_ret
       exact ⟨by rw [HS.out]; first | rfl | simp, HBW.out⟩
      ·have t1 : ((t : Int) == 0) = true := by rw [beq_iff_eq]; omega
       have t1n : ((t : Int) != 0) = false := by rw [bne_eq_false_iff_eq]; omega
       have k2 : (k == 2) = false := beq_false_of_ne hk2
       by_cases hs : s = 0
       ·have s1 : (s == 0) = true := by rw [beq_iff_eq]; exact hs
        have s1n : (s != 0) = false := by rw [bne_eq_false_iff_eq]; exact hs
        by_cases hm1 : 1 ≤ m
        ·have m1t : decide ((m : Int) ≥ 1) = true := decide_eq_true (by omega)
         have dk : dataOk m = decide (m ≤ 180) := by unfold dataOk; rw [decide_eq_true hm1]; rfl
         have HS := Lib.hid (show rightP kd k s t m = decide (m ≤ 180) by rw [rightP, if_neg (by rw [tk]; decide), if_neg kl, if_neg kh, if_neg (by rw [decide_eq_true ht, decide_eq_false hk2]; decide), if_pos hk, if_pos hs, dk])
         clear hk tk kl kh ht hk2 hs hm1 dk m1
         go_enter Tryz.func28, Tryz.ntmps28
         go_wp2_with fail
         go_ret
         exact ⟨by rw [HS.out]; first | rfl | simp, HBW.out⟩
        ·have m1f : decide ((m : Int) ≥ 1) = false := decide_eq_false (by omega)
         have dk : dataOk m = false := by unfold dataOk; rw [decide_eq_false hm1]; rfl
         have HS := Lib.hid (show rightP kd k s t m = false by rw [rightP, if_neg (by rw [tk]; decide), if_neg kl, if_neg kh, if_neg (by rw [decide_eq_true ht, decide_eq_false hk2]; decide), if_pos hk, if_pos hs, dk])
         clear hk tk kl kh ht hk2 hs hm1 dk m1
         go_enter Tryz.func28, Tryz.ntmps28
         go_wp2_with fail
         go_ret
         exact ⟨by rw [HS.out]; first | rfl | simp, HBW.out⟩
       ·have s1 : (s == 0) = false := beq_false_of_ne hs
        have s1n : (s != 0) = true := bne_iff_ne.2 hs
        have HS := Lib.hid (show rightP kd k s t m = false by rw [rightP, if_neg (by rw [tk]; decide), if_neg kl, if_neg kh, if_neg (by rw [decide_eq_true ht, decide_eq_false hk2]; decide), if_pos hk, if_neg hs])
        clear hk tk kl kh ht hk2 hs
        go_enter Tryz.func28, Tryz.ntmps28
        go_wp2_with fail
        go_ret
        exact ⟨by rw [HS.out]; first | rfl | simp, HBW.out⟩
     ·by_cases hk2 : k = 2
      ·have t1 : ((t : Int) == 0) = false := beq_false_of_ne (by omega)
       have t1n : ((t : Int) != 0) = true := bne_iff_ne.2 (by omega)
       have k2 : (k == 2) = true := by rw [beq_iff_eq]; exact hk2
       by_cases hs : s = 0
       ·have s1 : (s == 0) = true := by rw [beq_iff_eq]; exact hs
        have s1n : (s != 0) = false := by rw [bne_eq_false_iff_eq]; exact hs
        by_cases hm1 : 1 ≤ m
        ·have m1t : decide ((m : Int) ≥ 1) = true := decide_eq_true (by omega)
         have dk : dataOk m = decide (m ≤ 180) := by unfold dataOk; rw [decide_eq_true hm1]; rfl
         have HS := Lib.hid (show rightP kd k s t m = decide (m ≤ 180) by rw [rightP, if_neg (by rw [tk]; decide), if_neg kl, if_neg kh, if_neg (by rw [decide_eq_false ht, decide_eq_true hk2]; decide), if_pos hk, if_pos hs, dk])
         clear hk tk kl kh ht hk2 hs hm1 dk m1
         go_enter Tryz.func28, Tryz.ntmps28
         go_wp2_with fail
         go_ret
         exact ⟨by rw [HS.out]; first | rfl | simp, HBW.out⟩
        ·have m1f : decide ((m : Int) ≥ 1) = false := decide_eq_false (by omega)
         have dk : dataOk m = false := by unfold dataOk; rw [decide_eq_false hm1]; rfl
         have HS := Lib.hid (show rightP kd k s t m = false by rw [rightP, if_neg (by rw [tk]; decide), if_neg kl, if_neg kh, if_neg (by rw [decide_eq_false ht, decide_eq_true hk2]; decide), if_pos hk, if_pos hs, dk])
         clear hk tk kl kh ht hk2 hs hm1 dk m1
         go_enter Tryz.func28, Tryz.ntmps28
         go_wp2_with fail
         go_ret
         exact ⟨by rw [HS.out]; first | rfl | simp, HBW.out⟩
       ·have s1 : (s == 0) = false := beq_false_of_ne hs
        have s1n : (s != 0) = true := bne_iff_ne.2 hs
        have HS := Lib.hid (show rightP kd k s t m = false by rw [rightP, if_neg (by rw [tk]; decide), if_neg kl, if_neg kh, if_neg (by rw [decide_eq_false ht, decide_eq_true hk2]; decide), if_pos hk, if_neg hs])
        clear hk tk kl kh ht hk2 hs
        go_enter Tryz.func28, Tryz.ntmps28
        go_wp2_with fail
        go_ret
        exact ⟨by rw [HS.out]; first | rfl | simp, HBW.out⟩
      ·have t1 : ((t : Int) == 0) = false := beq_false_of_ne (by omega)
       have t1n : ((t : Int) != 0) = true := bne_iff_ne.2 (by omega)
       have k2 : (k == 2) = false := beq_false_of_ne hk2
       have HS := Lib.hid (show rightP kd k s t m = false by rw [rightP, if_neg (by rw [tk]; decide), if_neg kl, if_neg kh, if_pos (by rw [decide_eq_false ht, decide_eq_false hk2])])
       clear hk tk kl kh ht hk2
       go_enter Tryz.func28, Tryz.ntmps28
       go_wp2_with fail
       go_ret
       exact ⟨by rw [HS.out]; first | rfl | simp, HBW.out⟩
  ·have hk : ¬ (kd = 1 ∨ kd = 2) := fun h => h.elim hk hk2
   clear hk2
   have e1 : (kd == 1) = false := beq_false_of_ne (fun h => hk (Or.inl h))
   have e1n : (kd != 1) = true := bne_iff_ne.2 (fun h => hk (Or.inl h))
   have e2 : (kd == 2) = false := beq_false_of_ne (fun h => hk (Or.inr h))
   have e2n : (kd != 2) = true := bne_iff_ne.2 (fun h => hk (Or.inr h))
   have tk : takes kd = false := by unfold takes; rw [e1, e2]; rfl
   rw [tk] at HT
   have HS := Lib.hid (show rightP kd k s t m = false by rw [rightP, if_pos tk])
   clear hk tk
   go_enter Tryz.func28, Tryz.ntmps28
   go_wp2_with fail
   go_ret
   exact ⟨by rw [HS.out]; first | rfl | simp, HBW.out⟩
end Go.Proofs.YtdhgbkibbileiaaGreat
