/-
TE
-/
import Derived.Test.YtdhgbkibbileiaaGreatTD
import Derived.Test.YtdhgbkibbileiaaGreatSD
set_option maxRecDepth 100000
namespace Go.Proofs.YtdhgbkibbileiaaGreat
open Go.RowKit
set_option maxHeartbeats 16000000 in
theorem bare_1 (w : World) (r : RV) (h : r.In w All) (hk : r.k = 1) : Calls Tryz.prog 27 #[r.agg] w (Tells w (okE r.e = true)) := by
 obtain ⟨W, hW, hBW, hbx, hsz⟩ := box_rv w r
 obtain ⟨y0, y1, y2, y3, y4, y5, y6, y7, y8, y9, y10, y11, y12, y13, y14⟩ := rcs_cells hbx
 have HBW := Lib.hid hBW
 have HK := Lib.hid hk
 have HLEN := Lib.hid (show r.o.d.length = r.o.m ∧ r.il.length = r.im ∧ r.ll.length = r.lm ∧ r.dl.length = r.dm from ⟨h.o.b.len, h.i.1, h.l.1, h.d.1⟩)
 have c4 : (r.k == 4) = false := by rw [hk]; rfl
 have n4 : (r.k != 4) = true := by rw [hk]; rfl
 have c8 : (r.k == 8) = false := by rw [hk]; rfl
 have n8 : (r.k != 8) = true := by rw [hk]; rfl
 have c1 : (r.k == 1) = true := by rw [hk]; rfl
 have n1 : (r.k != 1) = false := by rw [hk]; rfl
 have c3 : (r.k == 3) = false := by rw [hk]; rfl
 have n3 : (r.k != 3) = true := by rw [hk]; rfl
 have c2 : (r.k == 2) = false := by rw [hk]; rfl
 have n2 : (r.k != 2) = true := by rw [hk]; rfl
 simp only [rcs] at hW
 unfold RV.agg
 clear h hBW hbx hsz hk
 by_cases e_a : r.a = 0
 ·have d_a : ((r.a : Int) != 0) = false := by rw [bne_eq_false_iff_eq]; omega
  have g_a : ((r.a : Int) == 0) = true := by rw [beq_iff_eq]; omega
  have H_a := Lib.hid e_a
  clear e_a
  by_cases e_b : r.b = 0
  ·have d_b : ((r.b : Int) != 0) = false := by rw [bne_eq_false_iff_eq]; omega
   have g_b : ((r.b : Int) == 0) = true := by rw [beq_iff_eq]; omega
   have H_b := Lib.hid e_b
   clear e_b
   by_cases e_pg : r.pg = 0
   ·have d_pg : ((r.pg : Int) != 0) = false := by rw [bne_eq_false_iff_eq]; omega
    have g_pg : ((r.pg : Int) == 0) = true := by rw [beq_iff_eq]; omega
    have H_pg := Lib.hid e_pg
    clear e_pg
    by_cases e_rt : r.rt = 0
    ·have d_rt : ((r.rt : Int) != 0) = false := by rw [bne_eq_false_iff_eq]; omega
     have g_rt : ((r.rt : Int) == 0) = true := by rw [beq_iff_eq]; omega
     have H_rt := Lib.hid e_rt
     clear e_rt
     by_cases e_ok : r.o.k = 0
     ·have d_ok : (r.o.k != 0) = false := by rw [bne_eq_false_iff_eq]; omega
      have g_ok : (r.o.k == 0) = true := by rw [beq_iff_eq]; omega
      have H_ok := Lib.hid e_ok
      clear e_ok
      by_cases e_os : r.o.s = 0
      ·have d_os : (r.o.s != 0) = false := by rw [bne_eq_false_iff_eq]; omega
       have g_os : (r.o.s == 0) = true := by rw [beq_iff_eq]; omega
       have H_os := Lib.hid e_os
       clear e_os
       by_cases e_ot : r.o.t = 0
       ·have d_ot : ((r.o.t : Int) != 0) = false := by rw [bne_eq_false_iff_eq]; omega
        have g_ot : ((r.o.t : Int) == 0) = true := by rw [beq_iff_eq]; omega
        have H_ot := Lib.hid e_ot
        clear e_ot
        by_cases e_om : r.o.m = 0
        ·have d_om : ((r.o.m : Int) != 0) = false := by rw [bne_eq_false_iff_eq]; omega
         have g_om : ((r.o.m : Int) == 0) = true := by rw [beq_iff_eq]; omega
         have H_om := Lib.hid e_om
         clear e_om
         by_cases e_nx : r.nx = 0
         ·have d_nx : ((r.nx : Int) != 0) = false := by rw [bne_eq_false_iff_eq]; omega
          have g_nx : ((r.nx : Int) == 0) = true := by rw [beq_iff_eq]; omega
          have H_nx := Lib.hid e_nx
          clear e_nx
          by_cases e_lm : r.lm = 0
          ·have d_lm : ((r.lm : Int) != 0) = false := by rw [bne_eq_false_iff_eq]; omega
           have g_lm : ((r.lm : Int) == 0) = true := by rw [beq_iff_eq]; omega
           have H_lm := Lib.hid e_lm
           clear e_lm
           by_cases e_dm : r.dm = 0
           ·have d_dm : ((r.dm : Int) != 0) = false := by rw [bne_eq_false_iff_eq]; omega
            have g_dm : ((r.dm : Int) == 0) = true := by rw [beq_iff_eq]; omega
            have H_dm := Lib.hid e_dm
            clear e_dm
            by_cases e_im : r.im = 0
            ·have d_im : ((r.im : Int) != 0) = false := by rw [bne_eq_false_iff_eq]; omega
             have g_im : ((r.im : Int) == 0) = true := by rw [beq_iff_eq]; omega
             have H_im := Lib.hid e_im
             clear e_im
             go_enter Tryz.func27, Tryz.ntmps27
             go_wp2_with fail
             go_ret
             refine .yes ?_ HBW.out
             have hk := HK.out
             obtain ⟨h1, h2, h3, h4⟩ := HLEN.out
             unfold okE fmE noopE uT uP uU uO uI uC RV.e OV.n
             simp [hk, h1, h2, h3, h4, H_a.out, H_b.out, H_pg.out, H_rt.out, H_ok.out, H_os.out, H_ot.out, H_om.out, H_nx.out, H_lm.out, H_dm.out, H_im.out]
            ·have d_im : ((r.im : Int) != 0) = true := bne_iff_ne.2 (by omega)
             have g_im : ((r.im : Int) == 0) = false := beq_false_of_ne (by omega)
             have HZ := Lib.hid e_im
             clear e_im
             go_enter Tryz.func27, Tryz.ntmps27
             go_wp2_with fail
             go_ret
             refine .no (fun h => ?_) HBW.out
             have hk := HK.out
             have hz := HZ.out
             obtain ⟨h1, h2, h3, h4⟩ := HLEN.out
             unfold okE fmE noopE uT uP uU uO uI uC RV.e OV.n at h
             simp [hk, hz, h1, h2, h3, h4] at h
           ·have d_dm : ((r.dm : Int) != 0) = true := bne_iff_ne.2 (by omega)
            have g_dm : ((r.dm : Int) == 0) = false := beq_false_of_ne (by omega)
            have HZ := Lib.hid e_dm
            clear e_dm
            go_enter Tryz.func27, Tryz.ntmps27
            go_wp2_with fail
            go_ret
            refine .no (fun h => ?_) HBW.out
            have hk := HK.out
            have hz := HZ.out
            obtain ⟨h1, h2, h3, h4⟩ := HLEN.out
            unfold okE fmE noopE uT uP uU uO uI uC RV.e OV.n at h
            simp [hk, hz, h1, h2, h3, h4] at h
          ·have d_lm : ((r.lm : Int) != 0) = true := bne_iff_ne.2 (by omega)
           have g_lm : ((r.lm : Int) == 0) = false := beq_false_of_ne (by omega)
           have HZ := Lib.hid e_lm
           clear e_lm
           go_enter Tryz.func27, Tryz.ntmps27
           go_wp2_with fail
           go_ret
           refine .no (fun h => ?_) HBW.out
           have hk := HK.out
           have hz := HZ.out
           obtain ⟨h1, h2, h3, h4⟩ := HLEN.out
           unfold okE fmE noopE uT uP uU uO uI uC RV.e OV.n at h
           simp [hk, hz, h1, h2, h3, h4] at h
         ·have d_nx : ((r.nx : Int) != 0) = true := bne_iff_ne.2 (by omega)
          have g_nx : ((r.nx : Int) == 0) = false := beq_false_of_ne (by omega)
          have HZ := Lib.hid e_nx
          clear e_nx
          go_enter Tryz.func27, Tryz.ntmps27
          go_wp2_with fail
          go_ret
          refine .no (fun h => ?_) HBW.out
          have hk := HK.out
          have hz := HZ.out
          obtain ⟨h1, h2, h3, h4⟩ := HLEN.out
          unfold okE fmE noopE uT uP uU uO uI uC RV.e OV.n at h
          simp [hk, hz, h1, h2, h3, h4] at h
        ·have d_om : ((r.o.m : Int) != 0) = true := bne_iff_ne.2 (by omega)
         have g_om : ((r.o.m : Int) == 0) = false := beq_false_of_ne (by omega)
         have HZ := Lib.hid e_om
         clear e_om
         go_enter Tryz.func27, Tryz.ntmps27
         go_wp2_with fail
         go_ret
         refine .no (fun h => ?_) HBW.out
         have hk := HK.out
         have hz := HZ.out
         obtain ⟨h1, h2, h3, h4⟩ := HLEN.out
         unfold okE fmE noopE uT uP uU uO uI uC RV.e OV.n at h
         simp [hk, hz, h1, h2, h3, h4] at h
       ·have d_ot : ((r.o.t : Int) != 0) = true := bne_iff_ne.2 (by omega)
        have g_ot : ((r.o.t : Int) == 0) = false := beq_false_of_ne (by omega)
        have HZ := Lib.hid e_ot
        clear e_ot
        go_enter Tryz.func27, Tryz.ntmps27
        go_wp2_with fail
        go_ret
        refine .no (fun h => ?_) HBW.out
        have hk := HK.out
        have hz := HZ.out
        obtain ⟨h1, h2, h3, h4⟩ := HLEN.out
        unfold okE fmE noopE uT uP uU uO uI uC RV.e OV.n at h
        simp [hk, hz, h1, h2, h3, h4] at h
      ·have d_os : (r.o.s != 0) = true := bne_iff_ne.2 (by omega)
       have g_os : (r.o.s == 0) = false := beq_false_of_ne (by omega)
       have HZ := Lib.hid e_os
       clear e_os
       go_enter Tryz.func27, Tryz.ntmps27
       go_wp2_with fail
       go_ret
       refine .no (fun h => ?_) HBW.out
       have hk := HK.out
       have hz := HZ.out
       obtain ⟨h1, h2, h3, h4⟩ := HLEN.out
       unfold okE fmE noopE uT uP uU uO uI uC RV.e OV.n at h
       simp [hk, hz, h1, h2, h3, h4] at h
     ·have d_ok : (r.o.k != 0) = true := bne_iff_ne.2 (by omega)
      have g_ok : (r.o.k == 0) = false := beq_false_of_ne (by omega)
      have HZ := Lib.hid e_ok
      clear e_ok
      go_enter Tryz.func27, Tryz.ntmps27
      go_wp2_with fail
      go_ret
      refine .no (fun h => ?_) HBW.out
      have hk := HK.out
      have hz := HZ.out
      obtain ⟨h1, h2, h3, h4⟩ := HLEN.out
      unfold okE fmE noopE uT uP uU uO uI uC RV.e OV.n at h
      simp [hk, hz, h1, h2, h3, h4] at h
    ·have d_rt : ((r.rt : Int) != 0) = true := bne_iff_ne.2 (by omega)
     have g_rt : ((r.rt : Int) == 0) = false := beq_false_of_ne (by omega)
     have HZ := Lib.hid e_rt
     clear e_rt
     go_enter Tryz.func27, Tryz.ntmps27
     go_wp2_with fail
     go_ret
     refine .no (fun h => ?_) HBW.out
     have hk := HK.out
     have hz := HZ.out
     obtain ⟨h1, h2, h3, h4⟩ := HLEN.out
     unfold okE fmE noopE uT uP uU uO uI uC RV.e OV.n at h
     simp [hk, hz, h1, h2, h3, h4] at h
   ·have d_pg : ((r.pg : Int) != 0) = true := bne_iff_ne.2 (by omega)
    have g_pg : ((r.pg : Int) == 0) = false := beq_false_of_ne (by omega)
    have HZ := Lib.hid e_pg
    clear e_pg
    go_enter Tryz.func27, Tryz.ntmps27
    go_wp2_with fail
    go_ret
    refine .no (fun h => ?_) HBW.out
    have hk := HK.out
    have hz := HZ.out
    obtain ⟨h1, h2, h3, h4⟩ := HLEN.out
    unfold okE fmE noopE uT uP uU uO uI uC RV.e OV.n at h
    simp [hk, hz, h1, h2, h3, h4] at h
  ·have d_b : ((r.b : Int) != 0) = true := bne_iff_ne.2 (by omega)
   have g_b : ((r.b : Int) == 0) = false := beq_false_of_ne (by omega)
   have HZ := Lib.hid e_b
   clear e_b
   go_enter Tryz.func27, Tryz.ntmps27
   go_wp2_with fail
   go_ret
   refine .no (fun h => ?_) HBW.out
   have hk := HK.out
   have hz := HZ.out
   obtain ⟨h1, h2, h3, h4⟩ := HLEN.out
   unfold okE fmE noopE uT uP uU uO uI uC RV.e OV.n at h
   simp [hk, hz, h1, h2, h3, h4] at h
 ·have d_a : ((r.a : Int) != 0) = true := bne_iff_ne.2 (by omega)
  have g_a : ((r.a : Int) == 0) = false := beq_false_of_ne (by omega)
  have HZ := Lib.hid e_a
  clear e_a
  go_enter Tryz.func27, Tryz.ntmps27
  go_wp2_with fail
  go_ret
  refine .no (fun h => ?_) HBW.out
  have hk := HK.out
  have hz := HZ.out
  obtain ⟨h1, h2, h3, h4⟩ := HLEN.out
  unfold okE fmE noopE uT uP uU uO uI uC RV.e OV.n at h
  simp [hk, hz, h1, h2, h3, h4] at h
set_option maxHeartbeats 16000000 in
theorem bare_2 (w : World) (r : RV) (h : r.In w All) (hk : r.k = 2) : Calls Tryz.prog 27 #[r.agg] w (Tells w (okE r.e = true)) := by
 obtain ⟨W, hW, hBW, hbx, hsz⟩ := box_rv w r
 obtain ⟨y0, y1, y2, y3, y4, y5, y6, y7, y8, y9, y10, y11, y12, y13, y14⟩ := rcs_cells hbx
 have HBW := Lib.hid hBW
 have HK := Lib.hid hk
 have HLEN := Lib.hid (show r.o.d.length = r.o.m ∧ r.il.length = r.im ∧ r.ll.length = r.lm ∧ r.dl.length = r.dm from ⟨h.o.b.len, h.i.1, h.l.1, h.d.1⟩)
 have c4 : (r.k == 4) = false := by rw [hk]; rfl
 have n4 : (r.k != 4) = true := by rw [hk]; rfl
 have c8 : (r.k == 8) = false := by rw [hk]; rfl
 have n8 : (r.k != 8) = true := by rw [hk]; rfl
 have c1 : (r.k == 1) = false := by rw [hk]; rfl
 have n1 : (r.k != 1) = true := by rw [hk]; rfl
 have c3 : (r.k == 3) = false := by rw [hk]; rfl
 have n3 : (r.k != 3) = true := by rw [hk]; rfl
 have c2 : (r.k == 2) = true := by rw [hk]; rfl
 have n2 : (r.k != 2) = false := by rw [hk]; rfl
 simp only [rcs] at hW
 unfold RV.agg
 clear h hBW hbx hsz hk
 by_cases e_b : r.b = 0
 ·have d_b : ((r.b : Int) != 0) = false := by rw [bne_eq_false_iff_eq]; omega
  have g_b : ((r.b : Int) == 0) = true := by rw [beq_iff_eq]; omega
  have H_b := Lib.hid e_b
  clear e_b
  by_cases e_nx : r.nx = 0
  ·have d_nx : ((r.nx : Int) != 0) = false := by rw [bne_eq_false_iff_eq]; omega
   have g_nx : ((r.nx : Int) == 0) = true := by rw [beq_iff_eq]; omega
   have H_nx := Lib.hid e_nx
   clear e_nx
   by_cases e_lm : r.lm = 0
   ·have d_lm : ((r.lm : Int) != 0) = false := by rw [bne_eq_false_iff_eq]; omega
    have g_lm : ((r.lm : Int) == 0) = true := by rw [beq_iff_eq]; omega
    have H_lm := Lib.hid e_lm
    clear e_lm
    by_cases e_dm : r.dm = 0
    ·have d_dm : ((r.dm : Int) != 0) = false := by rw [bne_eq_false_iff_eq]; omega
     have g_dm : ((r.dm : Int) == 0) = true := by rw [beq_iff_eq]; omega
     have H_dm := Lib.hid e_dm
     clear e_dm
     by_cases e_im : r.im = 0
     ·have d_im : ((r.im : Int) != 0) = false := by rw [bne_eq_false_iff_eq]; omega
      have g_im : ((r.im : Int) == 0) = true := by rw [beq_iff_eq]; omega
      have H_im := Lib.hid e_im
      clear e_im
      go_enter Tryz.func27, Tryz.ntmps27
      go_wp2_with fail
      go_ret
      refine .yes ?_ HBW.out
      have hk := HK.out
      obtain ⟨h1, h2, h3, h4⟩ := HLEN.out
      unfold okE fmE noopE uT uP uU uO uI uC RV.e OV.n
      simp [hk, h1, h2, h3, h4, H_b.out, H_nx.out, H_lm.out, H_dm.out, H_im.out]
     ·have d_im : ((r.im : Int) != 0) = true := bne_iff_ne.2 (by omega)
      have g_im : ((r.im : Int) == 0) = false := beq_false_of_ne (by omega)
      have HZ := Lib.hid e_im
      clear e_im
      go_enter Tryz.func27, Tryz.ntmps27
      go_wp2_with fail
      go_ret
      refine .no (fun h => ?_) HBW.out
      have hk := HK.out
      have hz := HZ.out
      obtain ⟨h1, h2, h3, h4⟩ := HLEN.out
      unfold okE fmE noopE uT uP uU uO uI uC RV.e OV.n at h
      simp [hk, hz, h1, h2, h3, h4] at h
    ·have d_dm : ((r.dm : Int) != 0) = true := bne_iff_ne.2 (by omega)
     have g_dm : ((r.dm : Int) == 0) = false := beq_false_of_ne (by omega)
     have HZ := Lib.hid e_dm
     clear e_dm
     go_enter Tryz.func27, Tryz.ntmps27
     go_wp2_with fail
     go_ret
     refine .no (fun h => ?_) HBW.out
     have hk := HK.out
     have hz := HZ.out
     obtain ⟨h1, h2, h3, h4⟩ := HLEN.out
     unfold okE fmE noopE uT uP uU uO uI uC RV.e OV.n at h
     simp [hk, hz, h1, h2, h3, h4] at h
   ·have d_lm : ((r.lm : Int) != 0) = true := bne_iff_ne.2 (by omega)
    have g_lm : ((r.lm : Int) == 0) = false := beq_false_of_ne (by omega)
    have HZ := Lib.hid e_lm
    clear e_lm
    go_enter Tryz.func27, Tryz.ntmps27
    go_wp2_with fail
    go_ret
    refine .no (fun h => ?_) HBW.out
    have hk := HK.out
    have hz := HZ.out
    obtain ⟨h1, h2, h3, h4⟩ := HLEN.out
    unfold okE fmE noopE uT uP uU uO uI uC RV.e OV.n at h
    simp [hk, hz, h1, h2, h3, h4] at h
  ·have d_nx : ((r.nx : Int) != 0) = true := bne_iff_ne.2 (by omega)
   have g_nx : ((r.nx : Int) == 0) = false := beq_false_of_ne (by omega)
   have HZ := Lib.hid e_nx
   clear e_nx
   go_enter Tryz.func27, Tryz.ntmps27
   go_wp2_with fail
   go_ret
   refine .no (fun h => ?_) HBW.out
   have hk := HK.out
   have hz := HZ.out
   obtain ⟨h1, h2, h3, h4⟩ := HLEN.out
   unfold okE fmE noopE uT uP uU uO uI uC RV.e OV.n at h
   simp [hk, hz, h1, h2, h3, h4] at h
 ·have d_b : ((r.b : Int) != 0) = true := bne_iff_ne.2 (by omega)
  have g_b : ((r.b : Int) == 0) = false := beq_false_of_ne (by omega)
  have HZ := Lib.hid e_b
  clear e_b
  go_enter Tryz.func27, Tryz.ntmps27
  go_wp2_with fail
  go_ret
  refine .no (fun h => ?_) HBW.out
  have hk := HK.out
  have hz := HZ.out
  obtain ⟨h1, h2, h3, h4⟩ := HLEN.out
  unfold okE fmE noopE uT uP uU uO uI uC RV.e OV.n at h
  simp [hk, hz, h1, h2, h3, h4] at h
set_option maxHeartbeats 16000000 in
theorem bare_3 (w : World) (r : RV) (h : r.In w All) (hk : r.k = 3) : Calls Tryz.prog 27 #[r.agg] w (Tells w (okE r.e = true)) := by
 obtain ⟨W, hW, hBW, hbx, hsz⟩ := box_rv w r
 obtain ⟨y0, y1, y2, y3, y4, y5, y6, y7, y8, y9, y10, y11, y12, y13, y14⟩ := rcs_cells hbx
 have HBW := Lib.hid hBW
 have HK := Lib.hid hk
 have HLEN := Lib.hid (show r.o.d.length = r.o.m ∧ r.il.length = r.im ∧ r.ll.length = r.lm ∧ r.dl.length = r.dm from ⟨h.o.b.len, h.i.1, h.l.1, h.d.1⟩)
 have c4 : (r.k == 4) = false := by rw [hk]; rfl
 have n4 : (r.k != 4) = true := by rw [hk]; rfl
 have c8 : (r.k == 8) = false := by rw [hk]; rfl
 have n8 : (r.k != 8) = true := by rw [hk]; rfl
 have c1 : (r.k == 1) = false := by rw [hk]; rfl
 have n1 : (r.k != 1) = true := by rw [hk]; rfl
 have c3 : (r.k == 3) = true := by rw [hk]; rfl
 have n3 : (r.k != 3) = false := by rw [hk]; rfl
 have c2 : (r.k == 2) = false := by rw [hk]; rfl
 have n2 : (r.k != 2) = true := by rw [hk]; rfl
 simp only [rcs] at hW
 unfold RV.agg
 clear h hBW hbx hsz hk
 by_cases e_nx : r.nx = 0
 ·have d_nx : ((r.nx : Int) != 0) = false := by rw [bne_eq_false_iff_eq]; omega
  have g_nx : ((r.nx : Int) == 0) = true := by rw [beq_iff_eq]; omega
  have H_nx := Lib.hid e_nx
  clear e_nx
  by_cases e_lm : r.lm = 0
  ·have d_lm : ((r.lm : Int) != 0) = false := by rw [bne_eq_false_iff_eq]; omega
   have g_lm : ((r.lm : Int) == 0) = true := by rw [beq_iff_eq]; omega
   have H_lm := Lib.hid e_lm
   clear e_lm
   by_cases e_dm : r.dm = 0
   ·have d_dm : ((r.dm : Int) != 0) = false := by rw [bne_eq_false_iff_eq]; omega
    have g_dm : ((r.dm : Int) == 0) = true := by rw [beq_iff_eq]; omega
    have H_dm := Lib.hid e_dm
    clear e_dm
    by_cases e_im : r.im = 0
    ·have d_im : ((r.im : Int) != 0) = false := by rw [bne_eq_false_iff_eq]; omega
     have g_im : ((r.im : Int) == 0) = true := by rw [beq_iff_eq]; omega
     have H_im := Lib.hid e_im
     clear e_im
     go_enter Tryz.func27, Tryz.ntmps27
     go_wp2_with fail
     go_ret
     refine .yes ?_ HBW.out
     have hk := HK.out
     obtain ⟨h1, h2, h3, h4⟩ := HLEN.out
     unfold okE fmE noopE uT uP uU uO uI uC RV.e OV.n
     simp [hk, h1, h2, h3, h4, H_nx.out, H_lm.out, H_dm.out, H_im.out]
    ·have d_im : ((r.im : Int) != 0) = true := bne_iff_ne.2 (by omega)
     have g_im : ((r.im : Int) == 0) = false := beq_false_of_ne (by omega)
     have HZ := Lib.hid e_im
     clear e_im
     go_enter Tryz.func27, Tryz.ntmps27
     go_wp2_with fail
     go_ret
     refine .no (fun h => ?_) HBW.out
     have hk := HK.out
     have hz := HZ.out
     obtain ⟨h1, h2, h3, h4⟩ := HLEN.out
     unfold okE fmE noopE uT uP uU uO uI uC RV.e OV.n at h
     simp [hk, hz, h1, h2, h3, h4] at h
   ·have d_dm : ((r.dm : Int) != 0) = true := bne_iff_ne.2 (by omega)
    have g_dm : ((r.dm : Int) == 0) = false := beq_false_of_ne (by omega)
    have HZ := Lib.hid e_dm
    clear e_dm
    go_enter Tryz.func27, Tryz.ntmps27
    go_wp2_with fail
    go_ret
    refine .no (fun h => ?_) HBW.out
    have hk := HK.out
    have hz := HZ.out
    obtain ⟨h1, h2, h3, h4⟩ := HLEN.out
    unfold okE fmE noopE uT uP uU uO uI uC RV.e OV.n at h
    simp [hk, hz, h1, h2, h3, h4] at h
  ·have d_lm : ((r.lm : Int) != 0) = true := bne_iff_ne.2 (by omega)
   have g_lm : ((r.lm : Int) == 0) = false := beq_false_of_ne (by omega)
   have HZ := Lib.hid e_lm
   clear e_lm
   go_enter Tryz.func27, Tryz.ntmps27
   go_wp2_with fail
   go_ret
   refine .no (fun h => ?_) HBW.out
   have hk := HK.out
   have hz := HZ.out
   obtain ⟨h1, h2, h3, h4⟩ := HLEN.out
   unfold okE fmE noopE uT uP uU uO uI uC RV.e OV.n at h
   simp [hk, hz, h1, h2, h3, h4] at h
 ·have d_nx : ((r.nx : Int) != 0) = true := bne_iff_ne.2 (by omega)
  have g_nx : ((r.nx : Int) == 0) = false := beq_false_of_ne (by omega)
  have HZ := Lib.hid e_nx
  clear e_nx
  go_enter Tryz.func27, Tryz.ntmps27
  go_wp2_with fail
  go_ret
  refine .no (fun h => ?_) HBW.out
  have hk := HK.out
  have hz := HZ.out
  obtain ⟨h1, h2, h3, h4⟩ := HLEN.out
  unfold okE fmE noopE uT uP uU uO uI uC RV.e OV.n at h
  simp [hk, hz, h1, h2, h3, h4] at h
set_option maxHeartbeats 16000000 in
theorem bare_4 (w : World) (r : RV) (h : r.In w All) (hk : r.k = 4) : Calls Tryz.prog 27 #[r.agg] w (Tells w (okE r.e = true)) := by
 obtain ⟨W, hW, hBW, hbx, hsz⟩ := box_rv w r
 obtain ⟨y0, y1, y2, y3, y4, y5, y6, y7, y8, y9, y10, y11, y12, y13, y14⟩ := rcs_cells hbx
 have HBW := Lib.hid hBW
 have HK := Lib.hid hk
 have HLEN := Lib.hid (show r.o.d.length = r.o.m ∧ r.il.length = r.im ∧ r.ll.length = r.lm ∧ r.dl.length = r.dm from ⟨h.o.b.len, h.i.1, h.l.1, h.d.1⟩)
 have c4 : (r.k == 4) = true := by rw [hk]; rfl
 have n4 : (r.k != 4) = false := by rw [hk]; rfl
 have c8 : (r.k == 8) = false := by rw [hk]; rfl
 have n8 : (r.k != 8) = true := by rw [hk]; rfl
 have c1 : (r.k == 1) = false := by rw [hk]; rfl
 have n1 : (r.k != 1) = true := by rw [hk]; rfl
 have c3 : (r.k == 3) = false := by rw [hk]; rfl
 have n3 : (r.k != 3) = true := by rw [hk]; rfl
 have c2 : (r.k == 2) = false := by rw [hk]; rfl
 have n2 : (r.k != 2) = true := by rw [hk]; rfl
 simp only [rcs] at hW
 unfold RV.agg
 clear h hBW hbx hsz hk
 by_cases e_t : r.t = 0
 ·have d_t : ((r.t : Int) != 0) = false := by rw [bne_eq_false_iff_eq]; omega
  have g_t : ((r.t : Int) == 0) = true := by rw [beq_iff_eq]; omega
  have H_t := Lib.hid e_t
  clear e_t
  by_cases e_a : r.a = 0
  ·have d_a : ((r.a : Int) != 0) = false := by rw [bne_eq_false_iff_eq]; omega
   have g_a : ((r.a : Int) == 0) = true := by rw [beq_iff_eq]; omega
   have H_a := Lib.hid e_a
   clear e_a
   by_cases e_b : r.b = 0
   ·have d_b : ((r.b : Int) != 0) = false := by rw [bne_eq_false_iff_eq]; omega
    have g_b : ((r.b : Int) == 0) = true := by rw [beq_iff_eq]; omega
    have H_b := Lib.hid e_b
    clear e_b
    by_cases e_pg : r.pg = 0
    ·have d_pg : ((r.pg : Int) != 0) = false := by rw [bne_eq_false_iff_eq]; omega
     have g_pg : ((r.pg : Int) == 0) = true := by rw [beq_iff_eq]; omega
     have H_pg := Lib.hid e_pg
     clear e_pg
     by_cases e_rt : r.rt = 0
     ·have d_rt : ((r.rt : Int) != 0) = false := by rw [bne_eq_false_iff_eq]; omega
      have g_rt : ((r.rt : Int) == 0) = true := by rw [beq_iff_eq]; omega
      have H_rt := Lib.hid e_rt
      clear e_rt
      by_cases e_ok : r.o.k = 0
      ·have d_ok : (r.o.k != 0) = false := by rw [bne_eq_false_iff_eq]; omega
       have g_ok : (r.o.k == 0) = true := by rw [beq_iff_eq]; omega
       have H_ok := Lib.hid e_ok
       clear e_ok
       by_cases e_os : r.o.s = 0
       ·have d_os : (r.o.s != 0) = false := by rw [bne_eq_false_iff_eq]; omega
        have g_os : (r.o.s == 0) = true := by rw [beq_iff_eq]; omega
        have H_os := Lib.hid e_os
        clear e_os
        by_cases e_ot : r.o.t = 0
        ·have d_ot : ((r.o.t : Int) != 0) = false := by rw [bne_eq_false_iff_eq]; omega
         have g_ot : ((r.o.t : Int) == 0) = true := by rw [beq_iff_eq]; omega
         have H_ot := Lib.hid e_ot
         clear e_ot
         by_cases e_om : r.o.m = 0
         ·have d_om : ((r.o.m : Int) != 0) = false := by rw [bne_eq_false_iff_eq]; omega
          have g_om : ((r.o.m : Int) == 0) = true := by rw [beq_iff_eq]; omega
          have H_om := Lib.hid e_om
          clear e_om
          by_cases e_nx : r.nx = 0
          ·have d_nx : ((r.nx : Int) != 0) = false := by rw [bne_eq_false_iff_eq]; omega
           have g_nx : ((r.nx : Int) == 0) = true := by rw [beq_iff_eq]; omega
           have H_nx := Lib.hid e_nx
           clear e_nx
           by_cases e_lm : r.lm = 0
           ·have d_lm : ((r.lm : Int) != 0) = false := by rw [bne_eq_false_iff_eq]; omega
            have g_lm : ((r.lm : Int) == 0) = true := by rw [beq_iff_eq]; omega
            have H_lm := Lib.hid e_lm
            clear e_lm
            by_cases e_dm : r.dm = 0
            ·have d_dm : ((r.dm : Int) != 0) = false := by rw [bne_eq_false_iff_eq]; omega
             have g_dm : ((r.dm : Int) == 0) = true := by rw [beq_iff_eq]; omega
             have H_dm := Lib.hid e_dm
             clear e_dm
             go_enter Tryz.func27, Tryz.ntmps27
             go_wp2_with fail
             go_ret
             refine .yes ?_ HBW.out
             have hk := HK.out
             obtain ⟨h1, h2, h3, h4⟩ := HLEN.out
             unfold okE fmE noopE uT uP uU uO uI uC RV.e OV.n
             simp [hk, h1, h2, h3, h4, H_t.out, H_a.out, H_b.out, H_pg.out, H_rt.out, H_ok.out, H_os.out, H_ot.out, H_om.out, H_nx.out, H_lm.out, H_dm.out]
            ·have d_dm : ((r.dm : Int) != 0) = true := bne_iff_ne.2 (by omega)
             have g_dm : ((r.dm : Int) == 0) = false := beq_false_of_ne (by omega)
             have HZ := Lib.hid e_dm
             clear e_dm
             go_enter Tryz.func27, Tryz.ntmps27
             go_wp2_with fail
             go_ret
             refine .no (fun h => ?_) HBW.out
             have hk := HK.out
             have hz := HZ.out
             obtain ⟨h1, h2, h3, h4⟩ := HLEN.out
             unfold okE fmE noopE uT uP uU uO uI uC RV.e OV.n at h
             simp [hk, hz, h1, h2, h3, h4] at h
           ·have d_lm : ((r.lm : Int) != 0) = true := bne_iff_ne.2 (by omega)
            have g_lm : ((r.lm : Int) == 0) = false := beq_false_of_ne (by omega)
            have HZ := Lib.hid e_lm
            clear e_lm
            go_enter Tryz.func27, Tryz.ntmps27
            go_wp2_with fail
            go_ret
            refine .no (fun h => ?_) HBW.out
            have hk := HK.out
            have hz := HZ.out
            obtain ⟨h1, h2, h3, h4⟩ := HLEN.out
            unfold okE fmE noopE uT uP uU uO uI uC RV.e OV.n at h
            simp [hk, hz, h1, h2, h3, h4] at h
          ·have d_nx : ((r.nx : Int) != 0) = true := bne_iff_ne.2 (by omega)
           have g_nx : ((r.nx : Int) == 0) = false := beq_false_of_ne (by omega)
           have HZ := Lib.hid e_nx
           clear e_nx
           go_enter Tryz.func27, Tryz.ntmps27
           go_wp2_with fail
           go_ret
           refine .no (fun h => ?_) HBW.out
           have hk := HK.out
           have hz := HZ.out
           obtain ⟨h1, h2, h3, h4⟩ := HLEN.out
           unfold okE fmE noopE uT uP uU uO uI uC RV.e OV.n at h
           simp [hk, hz, h1, h2, h3, h4] at h
         ·have d_om : ((r.o.m : Int) != 0) = true := bne_iff_ne.2 (by omega)
          have g_om : ((r.o.m : Int) == 0) = false := beq_false_of_ne (by omega)
          have HZ := Lib.hid e_om
          clear e_om
          go_enter Tryz.func27, Tryz.ntmps27
          go_wp2_with fail
          go_ret
          refine .no (fun h => ?_) HBW.out
          have hk := HK.out
          have hz := HZ.out
          obtain ⟨h1, h2, h3, h4⟩ := HLEN.out
          unfold okE fmE noopE uT uP uU uO uI uC RV.e OV.n at h
          simp [hk, hz, h1, h2, h3, h4] at h
        ·have d_ot : ((r.o.t : Int) != 0) = true := bne_iff_ne.2 (by omega)
         have g_ot : ((r.o.t : Int) == 0) = false := beq_false_of_ne (by omega)
         have HZ := Lib.hid e_ot
         clear e_ot
         go_enter Tryz.func27, Tryz.ntmps27
         go_wp2_with fail
         go_ret
         refine .no (fun h => ?_) HBW.out
         have hk := HK.out
         have hz := HZ.out
         obtain ⟨h1, h2, h3, h4⟩ := HLEN.out
         unfold okE fmE noopE uT uP uU uO uI uC RV.e OV.n at h
         simp [hk, hz, h1, h2, h3, h4] at h
       ·have d_os : (r.o.s != 0) = true := bne_iff_ne.2 (by omega)
        have g_os : (r.o.s == 0) = false := beq_false_of_ne (by omega)
        have HZ := Lib.hid e_os
        clear e_os
        go_enter Tryz.func27, Tryz.ntmps27
        go_wp2_with fail
        go_ret
        refine .no (fun h => ?_) HBW.out
        have hk := HK.out
        have hz := HZ.out
        obtain ⟨h1, h2, h3, h4⟩ := HLEN.out
        unfold okE fmE noopE uT uP uU uO uI uC RV.e OV.n at h
        simp [hk, hz, h1, h2, h3, h4] at h
      ·have d_ok : (r.o.k != 0) = true := bne_iff_ne.2 (by omega)
       have g_ok : (r.o.k == 0) = false := beq_false_of_ne (by omega)
       have HZ := Lib.hid e_ok
       clear e_ok
       go_enter Tryz.func27, Tryz.ntmps27
       go_wp2_with fail
       go_ret
       refine .no (fun h => ?_) HBW.out
       have hk := HK.out
       have hz := HZ.out
       obtain ⟨h1, h2, h3, h4⟩ := HLEN.out
       unfold okE fmE noopE uT uP uU uO uI uC RV.e OV.n at h
       simp [hk, hz, h1, h2, h3, h4] at h
     ·have d_rt : ((r.rt : Int) != 0) = true := bne_iff_ne.2 (by omega)
      have g_rt : ((r.rt : Int) == 0) = false := beq_false_of_ne (by omega)
      have HZ := Lib.hid e_rt
      clear e_rt
      go_enter Tryz.func27, Tryz.ntmps27
      go_wp2_with fail
      go_ret
      refine .no (fun h => ?_) HBW.out
      have hk := HK.out
      have hz := HZ.out
      obtain ⟨h1, h2, h3, h4⟩ := HLEN.out
      unfold okE fmE noopE uT uP uU uO uI uC RV.e OV.n at h
      simp [hk, hz, h1, h2, h3, h4] at h
    ·have d_pg : ((r.pg : Int) != 0) = true := bne_iff_ne.2 (by omega)
     have g_pg : ((r.pg : Int) == 0) = false := beq_false_of_ne (by omega)
     have HZ := Lib.hid e_pg
     clear e_pg
     go_enter Tryz.func27, Tryz.ntmps27
     go_wp2_with fail
     go_ret
     refine .no (fun h => ?_) HBW.out
     have hk := HK.out
     have hz := HZ.out
     obtain ⟨h1, h2, h3, h4⟩ := HLEN.out
     unfold okE fmE noopE uT uP uU uO uI uC RV.e OV.n at h
     simp [hk, hz, h1, h2, h3, h4] at h
   ·have d_b : ((r.b : Int) != 0) = true := bne_iff_ne.2 (by omega)
    have g_b : ((r.b : Int) == 0) = false := beq_false_of_ne (by omega)
    have HZ := Lib.hid e_b
    clear e_b
    go_enter Tryz.func27, Tryz.ntmps27
    go_wp2_with fail
    go_ret
    refine .no (fun h => ?_) HBW.out
    have hk := HK.out
    have hz := HZ.out
    obtain ⟨h1, h2, h3, h4⟩ := HLEN.out
    unfold okE fmE noopE uT uP uU uO uI uC RV.e OV.n at h
    simp [hk, hz, h1, h2, h3, h4] at h
  ·have d_a : ((r.a : Int) != 0) = true := bne_iff_ne.2 (by omega)
   have g_a : ((r.a : Int) == 0) = false := beq_false_of_ne (by omega)
   have HZ := Lib.hid e_a
   clear e_a
   go_enter Tryz.func27, Tryz.ntmps27
   go_wp2_with fail
   go_ret
   refine .no (fun h => ?_) HBW.out
   have hk := HK.out
   have hz := HZ.out
   obtain ⟨h1, h2, h3, h4⟩ := HLEN.out
   unfold okE fmE noopE uT uP uU uO uI uC RV.e OV.n at h
   simp [hk, hz, h1, h2, h3, h4] at h
 ·have d_t : ((r.t : Int) != 0) = true := bne_iff_ne.2 (by omega)
  have g_t : ((r.t : Int) == 0) = false := beq_false_of_ne (by omega)
  have HZ := Lib.hid e_t
  clear e_t
  go_enter Tryz.func27, Tryz.ntmps27
  go_wp2_with fail
  go_ret
  refine .no (fun h => ?_) HBW.out
  have hk := HK.out
  have hz := HZ.out
  obtain ⟨h1, h2, h3, h4⟩ := HLEN.out
  unfold okE fmE noopE uT uP uU uO uI uC RV.e OV.n at h
  simp [hk, hz, h1, h2, h3, h4] at h
set_option maxHeartbeats 16000000 in
theorem bare_5 (w : World) (r : RV) (h : r.In w All) (hk : r.k = 5) : Calls Tryz.prog 27 #[r.agg] w (Tells w (okE r.e = true)) := by
 obtain ⟨W, hW, hBW, hbx, hsz⟩ := box_rv w r
 obtain ⟨y0, y1, y2, y3, y4, y5, y6, y7, y8, y9, y10, y11, y12, y13, y14⟩ := rcs_cells hbx
 have HBW := Lib.hid hBW
 have HK := Lib.hid hk
 have HLEN := Lib.hid (show r.o.d.length = r.o.m ∧ r.il.length = r.im ∧ r.ll.length = r.lm ∧ r.dl.length = r.dm from ⟨h.o.b.len, h.i.1, h.l.1, h.d.1⟩)
 have c4 : (r.k == 4) = false := by rw [hk]; rfl
 have n4 : (r.k != 4) = true := by rw [hk]; rfl
 have c8 : (r.k == 8) = false := by rw [hk]; rfl
 have n8 : (r.k != 8) = true := by rw [hk]; rfl
 have c1 : (r.k == 1) = false := by rw [hk]; rfl
 have n1 : (r.k != 1) = true := by rw [hk]; rfl
 have c3 : (r.k == 3) = false := by rw [hk]; rfl
 have n3 : (r.k != 3) = true := by rw [hk]; rfl
 have c2 : (r.k == 2) = false := by rw [hk]; rfl
 have n2 : (r.k != 2) = true := by rw [hk]; rfl
 simp only [rcs] at hW
 unfold RV.agg
 clear h hBW hbx hsz hk
 by_cases e_b : r.b = 0
 ·have d_b : ((r.b : Int) != 0) = false := by rw [bne_eq_false_iff_eq]; omega
  have g_b : ((r.b : Int) == 0) = true := by rw [beq_iff_eq]; omega
  have H_b := Lib.hid e_b
  clear e_b
  by_cases e_pg : r.pg = 0
  ·have d_pg : ((r.pg : Int) != 0) = false := by rw [bne_eq_false_iff_eq]; omega
   have g_pg : ((r.pg : Int) == 0) = true := by rw [beq_iff_eq]; omega
   have H_pg := Lib.hid e_pg
   clear e_pg
   by_cases e_rt : r.rt = 0
   ·have d_rt : ((r.rt : Int) != 0) = false := by rw [bne_eq_false_iff_eq]; omega
    have g_rt : ((r.rt : Int) == 0) = true := by rw [beq_iff_eq]; omega
    have H_rt := Lib.hid e_rt
    clear e_rt
    by_cases e_ok : r.o.k = 0
    ·have d_ok : (r.o.k != 0) = false := by rw [bne_eq_false_iff_eq]; omega
     have g_ok : (r.o.k == 0) = true := by rw [beq_iff_eq]; omega
     have H_ok := Lib.hid e_ok
     clear e_ok
     by_cases e_os : r.o.s = 0
     ·have d_os : (r.o.s != 0) = false := by rw [bne_eq_false_iff_eq]; omega
      have g_os : (r.o.s == 0) = true := by rw [beq_iff_eq]; omega
      have H_os := Lib.hid e_os
      clear e_os
      by_cases e_ot : r.o.t = 0
      ·have d_ot : ((r.o.t : Int) != 0) = false := by rw [bne_eq_false_iff_eq]; omega
       have g_ot : ((r.o.t : Int) == 0) = true := by rw [beq_iff_eq]; omega
       have H_ot := Lib.hid e_ot
       clear e_ot
       by_cases e_om : r.o.m = 0
       ·have d_om : ((r.o.m : Int) != 0) = false := by rw [bne_eq_false_iff_eq]; omega
        have g_om : ((r.o.m : Int) == 0) = true := by rw [beq_iff_eq]; omega
        have H_om := Lib.hid e_om
        clear e_om
        by_cases e_nx : r.nx = 0
        ·have d_nx : ((r.nx : Int) != 0) = false := by rw [bne_eq_false_iff_eq]; omega
         have g_nx : ((r.nx : Int) == 0) = true := by rw [beq_iff_eq]; omega
         have H_nx := Lib.hid e_nx
         clear e_nx
         by_cases e_lm : r.lm = 0
         ·have d_lm : ((r.lm : Int) != 0) = false := by rw [bne_eq_false_iff_eq]; omega
          have g_lm : ((r.lm : Int) == 0) = true := by rw [beq_iff_eq]; omega
          have H_lm := Lib.hid e_lm
          clear e_lm
          by_cases e_dm : r.dm = 0
          ·have d_dm : ((r.dm : Int) != 0) = false := by rw [bne_eq_false_iff_eq]; omega
           have g_dm : ((r.dm : Int) == 0) = true := by rw [beq_iff_eq]; omega
           have H_dm := Lib.hid e_dm
           clear e_dm
           by_cases e_im : r.im = 0
           ·have d_im : ((r.im : Int) != 0) = false := by rw [bne_eq_false_iff_eq]; omega
            have g_im : ((r.im : Int) == 0) = true := by rw [beq_iff_eq]; omega
            have H_im := Lib.hid e_im
            clear e_im
            go_enter Tryz.func27, Tryz.ntmps27
            go_wp2_with fail
            go_ret
            refine .yes ?_ HBW.out
            have hk := HK.out
            obtain ⟨h1, h2, h3, h4⟩ := HLEN.out
            unfold okE fmE noopE uT uP uU uO uI uC RV.e OV.n
            simp [hk, h1, h2, h3, h4, H_b.out, H_pg.out, H_rt.out, H_ok.out, H_os.out, H_ot.out, H_om.out, H_nx.out, H_lm.out, H_dm.out, H_im.out]
           ·have d_im : ((r.im : Int) != 0) = true := bne_iff_ne.2 (by omega)
            have g_im : ((r.im : Int) == 0) = false := beq_false_of_ne (by omega)
            have HZ := Lib.hid e_im
            clear e_im
            go_enter Tryz.func27, Tryz.ntmps27
            go_wp2_with fail
            go_ret
            refine .no (fun h => ?_) HBW.out
            have hk := HK.out
            have hz := HZ.out
            obtain ⟨h1, h2, h3, h4⟩ := HLEN.out
            unfold okE fmE noopE uT uP uU uO uI uC RV.e OV.n at h
            simp [hk, hz, h1, h2, h3, h4] at h
          ·have d_dm : ((r.dm : Int) != 0) = true := bne_iff_ne.2 (by omega)
           have g_dm : ((r.dm : Int) == 0) = false := beq_false_of_ne (by omega)
           have HZ := Lib.hid e_dm
           clear e_dm
           go_enter Tryz.func27, Tryz.ntmps27
           go_wp2_with fail
           go_ret
           refine .no (fun h => ?_) HBW.out
           have hk := HK.out
           have hz := HZ.out
           obtain ⟨h1, h2, h3, h4⟩ := HLEN.out
           unfold okE fmE noopE uT uP uU uO uI uC RV.e OV.n at h
           simp [hk, hz, h1, h2, h3, h4] at h
         ·have d_lm : ((r.lm : Int) != 0) = true := bne_iff_ne.2 (by omega)
          have g_lm : ((r.lm : Int) == 0) = false := beq_false_of_ne (by omega)
          have HZ := Lib.hid e_lm
          clear e_lm
          go_enter Tryz.func27, Tryz.ntmps27
          go_wp2_with fail
          go_ret
          refine .no (fun h => ?_) HBW.out
          have hk := HK.out
          have hz := HZ.out
          obtain ⟨h1, h2, h3, h4⟩ := HLEN.out
          unfold okE fmE noopE uT uP uU uO uI uC RV.e OV.n at h
          simp [hk, hz, h1, h2, h3, h4] at h
        ·have d_nx : ((r.nx : Int) != 0) = true := bne_iff_ne.2 (by omega)
         have g_nx : ((r.nx : Int) == 0) = false := beq_false_of_ne (by omega)
         have HZ := Lib.hid e_nx
         clear e_nx
         go_enter Tryz.func27, Tryz.ntmps27
         go_wp2_with fail
         go_ret
         refine .no (fun h => ?_) HBW.out
         have hk := HK.out
         have hz := HZ.out
         obtain ⟨h1, h2, h3, h4⟩ := HLEN.out
         unfold okE fmE noopE uT uP uU uO uI uC RV.e OV.n at h
         simp [hk, hz, h1, h2, h3, h4] at h
       ·have d_om : ((r.o.m : Int) != 0) = true := bne_iff_ne.2 (by omega)
        have g_om : ((r.o.m : Int) == 0) = false := beq_false_of_ne (by omega)
        have HZ := Lib.hid e_om
        clear e_om
        go_enter Tryz.func27, Tryz.ntmps27
        go_wp2_with fail
        go_ret
        refine .no (fun h => ?_) HBW.out
        have hk := HK.out
        have hz := HZ.out
        obtain ⟨h1, h2, h3, h4⟩ := HLEN.out
        unfold okE fmE noopE uT uP uU uO uI uC RV.e OV.n at h
        simp [hk, hz, h1, h2, h3, h4] at h
      ·have d_ot : ((r.o.t : Int) != 0) = true := bne_iff_ne.2 (by omega)
       have g_ot : ((r.o.t : Int) == 0) = false := beq_false_of_ne (by omega)
       have HZ := Lib.hid e_ot
       clear e_ot
       go_enter Tryz.func27, Tryz.ntmps27
       go_wp2_with fail
       go_ret
       refine .no (fun h => ?_) HBW.out
       have hk := HK.out
       have hz := HZ.out
       obtain ⟨h1, h2, h3, h4⟩ := HLEN.out
       unfold okE fmE noopE uT uP uU uO uI uC RV.e OV.n at h
       simp [hk, hz, h1, h2, h3, h4] at h
     ·have d_os : (r.o.s != 0) = true := bne_iff_ne.2 (by omega)
      have g_os : (r.o.s == 0) = false := beq_false_of_ne (by omega)
      have HZ := Lib.hid e_os
      clear e_os
      go_enter Tryz.func27, Tryz.ntmps27
      go_wp2_with fail
      go_ret
      refine .no (fun h => ?_) HBW.out
      have hk := HK.out
      have hz := HZ.out
      obtain ⟨h1, h2, h3, h4⟩ := HLEN.out
      unfold okE fmE noopE uT uP uU uO uI uC RV.e OV.n at h
      simp [hk, hz, h1, h2, h3, h4] at h
    ·have d_ok : (r.o.k != 0) = true := bne_iff_ne.2 (by omega)
     have g_ok : (r.o.k == 0) = false := beq_false_of_ne (by omega)
     have HZ := Lib.hid e_ok
     clear e_ok
     go_enter Tryz.func27, Tryz.ntmps27
     go_wp2_with fail
     go_ret
     refine .no (fun h => ?_) HBW.out
     have hk := HK.out
     have hz := HZ.out
     obtain ⟨h1, h2, h3, h4⟩ := HLEN.out
     unfold okE fmE noopE uT uP uU uO uI uC RV.e OV.n at h
     simp [hk, hz, h1, h2, h3, h4] at h
   ·have d_rt : ((r.rt : Int) != 0) = true := bne_iff_ne.2 (by omega)
    have g_rt : ((r.rt : Int) == 0) = false := beq_false_of_ne (by omega)
    have HZ := Lib.hid e_rt
    clear e_rt
    go_enter Tryz.func27, Tryz.ntmps27
    go_wp2_with fail
    go_ret
    refine .no (fun h => ?_) HBW.out
    have hk := HK.out
    have hz := HZ.out
    obtain ⟨h1, h2, h3, h4⟩ := HLEN.out
    unfold okE fmE noopE uT uP uU uO uI uC RV.e OV.n at h
    simp [hk, hz, h1, h2, h3, h4] at h
  ·have d_pg : ((r.pg : Int) != 0) = true := bne_iff_ne.2 (by omega)
   have g_pg : ((r.pg : Int) == 0) = false := beq_false_of_ne (by omega)
   have HZ := Lib.hid e_pg
   clear e_pg
   go_enter Tryz.func27, Tryz.ntmps27
   go_wp2_with fail
   go_ret
   refine .no (fun h => ?_) HBW.out
   have hk := HK.out
   have hz := HZ.out
   obtain ⟨h1, h2, h3, h4⟩ := HLEN.out
   unfold okE fmE noopE uT uP uU uO uI uC RV.e OV.n at h
   simp [hk, hz, h1, h2, h3, h4] at h
 ·have d_b : ((r.b : Int) != 0) = true := bne_iff_ne.2 (by omega)
  have g_b : ((r.b : Int) == 0) = false := beq_false_of_ne (by omega)
  have HZ := Lib.hid e_b
  clear e_b
  go_enter Tryz.func27, Tryz.ntmps27
  go_wp2_with fail
  go_ret
  refine .no (fun h => ?_) HBW.out
  have hk := HK.out
  have hz := HZ.out
  obtain ⟨h1, h2, h3, h4⟩ := HLEN.out
  unfold okE fmE noopE uT uP uU uO uI uC RV.e OV.n at h
  simp [hk, hz, h1, h2, h3, h4] at h
set_option maxHeartbeats 16000000 in
theorem bare_6 (w : World) (r : RV) (h : r.In w All) (hk : r.k = 6) : Calls Tryz.prog 27 #[r.agg] w (Tells w (okE r.e = true)) := by
 obtain ⟨W, hW, hBW, hbx, hsz⟩ := box_rv w r
 obtain ⟨y0, y1, y2, y3, y4, y5, y6, y7, y8, y9, y10, y11, y12, y13, y14⟩ := rcs_cells hbx
 have HBW := Lib.hid hBW
 have HK := Lib.hid hk
 have HLEN := Lib.hid (show r.o.d.length = r.o.m ∧ r.il.length = r.im ∧ r.ll.length = r.lm ∧ r.dl.length = r.dm from ⟨h.o.b.len, h.i.1, h.l.1, h.d.1⟩)
 have c4 : (r.k == 4) = false := by rw [hk]; rfl
 have n4 : (r.k != 4) = true := by rw [hk]; rfl
 have c8 : (r.k == 8) = false := by rw [hk]; rfl
 have n8 : (r.k != 8) = true := by rw [hk]; rfl
 have c1 : (r.k == 1) = false := by rw [hk]; rfl
 have n1 : (r.k != 1) = true := by rw [hk]; rfl
 have c3 : (r.k == 3) = false := by rw [hk]; rfl
 have n3 : (r.k != 3) = true := by rw [hk]; rfl
 have c2 : (r.k == 2) = false := by rw [hk]; rfl
 have n2 : (r.k != 2) = true := by rw [hk]; rfl
 simp only [rcs] at hW
 unfold RV.agg
 clear h hBW hbx hsz hk
 by_cases e_b : r.b = 0
 ·have d_b : ((r.b : Int) != 0) = false := by rw [bne_eq_false_iff_eq]; omega
  have g_b : ((r.b : Int) == 0) = true := by rw [beq_iff_eq]; omega
  have H_b := Lib.hid e_b
  clear e_b
  by_cases e_pg : r.pg = 0
  ·have d_pg : ((r.pg : Int) != 0) = false := by rw [bne_eq_false_iff_eq]; omega
   have g_pg : ((r.pg : Int) == 0) = true := by rw [beq_iff_eq]; omega
   have H_pg := Lib.hid e_pg
   clear e_pg
   by_cases e_rt : r.rt = 0
   ·have d_rt : ((r.rt : Int) != 0) = false := by rw [bne_eq_false_iff_eq]; omega
    have g_rt : ((r.rt : Int) == 0) = true := by rw [beq_iff_eq]; omega
    have H_rt := Lib.hid e_rt
    clear e_rt
    by_cases e_ok : r.o.k = 0
    ·have d_ok : (r.o.k != 0) = false := by rw [bne_eq_false_iff_eq]; omega
     have g_ok : (r.o.k == 0) = true := by rw [beq_iff_eq]; omega
     have H_ok := Lib.hid e_ok
     clear e_ok
     by_cases e_os : r.o.s = 0
     ·have d_os : (r.o.s != 0) = false := by rw [bne_eq_false_iff_eq]; omega
      have g_os : (r.o.s == 0) = true := by rw [beq_iff_eq]; omega
      have H_os := Lib.hid e_os
      clear e_os
      by_cases e_ot : r.o.t = 0
      ·have d_ot : ((r.o.t : Int) != 0) = false := by rw [bne_eq_false_iff_eq]; omega
       have g_ot : ((r.o.t : Int) == 0) = true := by rw [beq_iff_eq]; omega
       have H_ot := Lib.hid e_ot
       clear e_ot
       by_cases e_om : r.o.m = 0
       ·have d_om : ((r.o.m : Int) != 0) = false := by rw [bne_eq_false_iff_eq]; omega
        have g_om : ((r.o.m : Int) == 0) = true := by rw [beq_iff_eq]; omega
        have H_om := Lib.hid e_om
        clear e_om
        by_cases e_nx : r.nx = 0
        ·have d_nx : ((r.nx : Int) != 0) = false := by rw [bne_eq_false_iff_eq]; omega
         have g_nx : ((r.nx : Int) == 0) = true := by rw [beq_iff_eq]; omega
         have H_nx := Lib.hid e_nx
         clear e_nx
         by_cases e_lm : r.lm = 0
         ·have d_lm : ((r.lm : Int) != 0) = false := by rw [bne_eq_false_iff_eq]; omega
          have g_lm : ((r.lm : Int) == 0) = true := by rw [beq_iff_eq]; omega
          have H_lm := Lib.hid e_lm
          clear e_lm
          by_cases e_dm : r.dm = 0
          ·have d_dm : ((r.dm : Int) != 0) = false := by rw [bne_eq_false_iff_eq]; omega
           have g_dm : ((r.dm : Int) == 0) = true := by rw [beq_iff_eq]; omega
           have H_dm := Lib.hid e_dm
           clear e_dm
           by_cases e_im : r.im = 0
           ·have d_im : ((r.im : Int) != 0) = false := by rw [bne_eq_false_iff_eq]; omega
            have g_im : ((r.im : Int) == 0) = true := by rw [beq_iff_eq]; omega
            have H_im := Lib.hid e_im
            clear e_im
            go_enter Tryz.func27, Tryz.ntmps27
            go_wp2_with fail
            go_ret
            refine .yes ?_ HBW.out
            have hk := HK.out
            obtain ⟨h1, h2, h3, h4⟩ := HLEN.out
            unfold okE fmE noopE uT uP uU uO uI uC RV.e OV.n
            simp [hk, h1, h2, h3, h4, H_b.out, H_pg.out, H_rt.out, H_ok.out, H_os.out, H_ot.out, H_om.out, H_nx.out, H_lm.out, H_dm.out, H_im.out]
           ·have d_im : ((r.im : Int) != 0) = true := bne_iff_ne.2 (by omega)
            have g_im : ((r.im : Int) == 0) = false := beq_false_of_ne (by omega)
            have HZ := Lib.hid e_im
            clear e_im
            go_enter Tryz.func27, Tryz.ntmps27
            go_wp2_with fail
            go_ret
            refine .no (fun h => ?_) HBW.out
            have hk := HK.out
            have hz := HZ.out
            obtain ⟨h1, h2, h3, h4⟩ := HLEN.out
            unfold okE fmE noopE uT uP uU uO uI uC RV.e OV.n at h
            simp [hk, hz, h1, h2, h3, h4] at h
          ·have d_dm : ((r.dm : Int) != 0) = true := bne_iff_ne.2 (by omega)
           have g_dm : ((r.dm : Int) == 0) = false := beq_false_of_ne (by omega)
           have HZ := Lib.hid e_dm
           clear e_dm
           go_enter Tryz.func27, Tryz.ntmps27
           go_wp2_with fail
           go_ret
           refine .no (fun h => ?_) HBW.out
           have hk := HK.out
           have hz := HZ.out
           obtain ⟨h1, h2, h3, h4⟩ := HLEN.out
           unfold okE fmE noopE uT uP uU uO uI uC RV.e OV.n at h
           simp [hk, hz, h1, h2, h3, h4] at h
         ·have d_lm : ((r.lm : Int) != 0) = true := bne_iff_ne.2 (by omega)
          have g_lm : ((r.lm : Int) == 0) = false := beq_false_of_ne (by omega)
          have HZ := Lib.hid e_lm
          clear e_lm
          go_enter Tryz.func27, Tryz.ntmps27
          go_wp2_with fail
          go_ret
          refine .no (fun h => ?_) HBW.out
          have hk := HK.out
          have hz := HZ.out
          obtain ⟨h1, h2, h3, h4⟩ := HLEN.out
          unfold okE fmE noopE uT uP uU uO uI uC RV.e OV.n at h
          simp [hk, hz, h1, h2, h3, h4] at h
        ·have d_nx : ((r.nx : Int) != 0) = true := bne_iff_ne.2 (by omega)
         have g_nx : ((r.nx : Int) == 0) = false := beq_false_of_ne (by omega)
         have HZ := Lib.hid e_nx
         clear e_nx
         go_enter Tryz.func27, Tryz.ntmps27
         go_wp2_with fail
         go_ret
         refine .no (fun h => ?_) HBW.out
         have hk := HK.out
         have hz := HZ.out
         obtain ⟨h1, h2, h3, h4⟩ := HLEN.out
         unfold okE fmE noopE uT uP uU uO uI uC RV.e OV.n at h
         simp [hk, hz, h1, h2, h3, h4] at h
       ·have d_om : ((r.o.m : Int) != 0) = true := bne_iff_ne.2 (by omega)
        have g_om : ((r.o.m : Int) == 0) = false := beq_false_of_ne (by omega)
        have HZ := Lib.hid e_om
        clear e_om
        go_enter Tryz.func27, Tryz.ntmps27
        go_wp2_with fail
        go_ret
        refine .no (fun h => ?_) HBW.out
        have hk := HK.out
        have hz := HZ.out
        obtain ⟨h1, h2, h3, h4⟩ := HLEN.out
        unfold okE fmE noopE uT uP uU uO uI uC RV.e OV.n at h
        simp [hk, hz, h1, h2, h3, h4] at h
      ·have d_ot : ((r.o.t : Int) != 0) = true := bne_iff_ne.2 (by omega)
       have g_ot : ((r.o.t : Int) == 0) = false := beq_false_of_ne (by omega)
       have HZ := Lib.hid e_ot
       clear e_ot
       go_enter Tryz.func27, Tryz.ntmps27
       go_wp2_with fail
       go_ret
       refine .no (fun h => ?_) HBW.out
       have hk := HK.out
       have hz := HZ.out
       obtain ⟨h1, h2, h3, h4⟩ := HLEN.out
       unfold okE fmE noopE uT uP uU uO uI uC RV.e OV.n at h
       simp [hk, hz, h1, h2, h3, h4] at h
     ·have d_os : (r.o.s != 0) = true := bne_iff_ne.2 (by omega)
      have g_os : (r.o.s == 0) = false := beq_false_of_ne (by omega)
      have HZ := Lib.hid e_os
      clear e_os
      go_enter Tryz.func27, Tryz.ntmps27
      go_wp2_with fail
      go_ret
      refine .no (fun h => ?_) HBW.out
      have hk := HK.out
      have hz := HZ.out
      obtain ⟨h1, h2, h3, h4⟩ := HLEN.out
      unfold okE fmE noopE uT uP uU uO uI uC RV.e OV.n at h
      simp [hk, hz, h1, h2, h3, h4] at h
    ·have d_ok : (r.o.k != 0) = true := bne_iff_ne.2 (by omega)
     have g_ok : (r.o.k == 0) = false := beq_false_of_ne (by omega)
     have HZ := Lib.hid e_ok
     clear e_ok
     go_enter Tryz.func27, Tryz.ntmps27
     go_wp2_with fail
     go_ret
     refine .no (fun h => ?_) HBW.out
     have hk := HK.out
     have hz := HZ.out
     obtain ⟨h1, h2, h3, h4⟩ := HLEN.out
     unfold okE fmE noopE uT uP uU uO uI uC RV.e OV.n at h
     simp [hk, hz, h1, h2, h3, h4] at h
   ·have d_rt : ((r.rt : Int) != 0) = true := bne_iff_ne.2 (by omega)
    have g_rt : ((r.rt : Int) == 0) = false := beq_false_of_ne (by omega)
    have HZ := Lib.hid e_rt
    clear e_rt
    go_enter Tryz.func27, Tryz.ntmps27
    go_wp2_with fail
    go_ret
    refine .no (fun h => ?_) HBW.out
    have hk := HK.out
    have hz := HZ.out
    obtain ⟨h1, h2, h3, h4⟩ := HLEN.out
    unfold okE fmE noopE uT uP uU uO uI uC RV.e OV.n at h
    simp [hk, hz, h1, h2, h3, h4] at h
  ·have d_pg : ((r.pg : Int) != 0) = true := bne_iff_ne.2 (by omega)
   have g_pg : ((r.pg : Int) == 0) = false := beq_false_of_ne (by omega)
   have HZ := Lib.hid e_pg
   clear e_pg
   go_enter Tryz.func27, Tryz.ntmps27
   go_wp2_with fail
   go_ret
   refine .no (fun h => ?_) HBW.out
   have hk := HK.out
   have hz := HZ.out
   obtain ⟨h1, h2, h3, h4⟩ := HLEN.out
   unfold okE fmE noopE uT uP uU uO uI uC RV.e OV.n at h
   simp [hk, hz, h1, h2, h3, h4] at h
 ·have d_b : ((r.b : Int) != 0) = true := bne_iff_ne.2 (by omega)
  have g_b : ((r.b : Int) == 0) = false := beq_false_of_ne (by omega)
  have HZ := Lib.hid e_b
  clear e_b
  go_enter Tryz.func27, Tryz.ntmps27
  go_wp2_with fail
  go_ret
  refine .no (fun h => ?_) HBW.out
  have hk := HK.out
  have hz := HZ.out
  obtain ⟨h1, h2, h3, h4⟩ := HLEN.out
  unfold okE fmE noopE uT uP uU uO uI uC RV.e OV.n at h
  simp [hk, hz, h1, h2, h3, h4] at h
set_option maxHeartbeats 16000000 in
theorem bare_7 (w : World) (r : RV) (h : r.In w All) (hk : r.k = 7) : Calls Tryz.prog 27 #[r.agg] w (Tells w (okE r.e = true)) := by
 obtain ⟨W, hW, hBW, hbx, hsz⟩ := box_rv w r
 obtain ⟨y0, y1, y2, y3, y4, y5, y6, y7, y8, y9, y10, y11, y12, y13, y14⟩ := rcs_cells hbx
 have HBW := Lib.hid hBW
 have HK := Lib.hid hk
 have HLEN := Lib.hid (show r.o.d.length = r.o.m ∧ r.il.length = r.im ∧ r.ll.length = r.lm ∧ r.dl.length = r.dm from ⟨h.o.b.len, h.i.1, h.l.1, h.d.1⟩)
 have c4 : (r.k == 4) = false := by rw [hk]; rfl
 have n4 : (r.k != 4) = true := by rw [hk]; rfl
 have c8 : (r.k == 8) = false := by rw [hk]; rfl
 have n8 : (r.k != 8) = true := by rw [hk]; rfl
 have c1 : (r.k == 1) = false := by rw [hk]; rfl
 have n1 : (r.k != 1) = true := by rw [hk]; rfl
 have c3 : (r.k == 3) = false := by rw [hk]; rfl
 have n3 : (r.k != 3) = true := by rw [hk]; rfl
 have c2 : (r.k == 2) = false := by rw [hk]; rfl
 have n2 : (r.k != 2) = true := by rw [hk]; rfl
 simp only [rcs] at hW
 unfold RV.agg
 clear h hBW hbx hsz hk
 by_cases e_b : r.b = 0
 ·have d_b : ((r.b : Int) != 0) = false := by rw [bne_eq_false_iff_eq]; omega
  have g_b : ((r.b : Int) == 0) = true := by rw [beq_iff_eq]; omega
  have H_b := Lib.hid e_b
  clear e_b
  by_cases e_pg : r.pg = 0
  ·have d_pg : ((r.pg : Int) != 0) = false := by rw [bne_eq_false_iff_eq]; omega
   have g_pg : ((r.pg : Int) == 0) = true := by rw [beq_iff_eq]; omega
   have H_pg := Lib.hid e_pg
   clear e_pg
   by_cases e_rt : r.rt = 0
   ·have d_rt : ((r.rt : Int) != 0) = false := by rw [bne_eq_false_iff_eq]; omega
    have g_rt : ((r.rt : Int) == 0) = true := by rw [beq_iff_eq]; omega
    have H_rt := Lib.hid e_rt
    clear e_rt
    by_cases e_ok : r.o.k = 0
    ·have d_ok : (r.o.k != 0) = false := by rw [bne_eq_false_iff_eq]; omega
     have g_ok : (r.o.k == 0) = true := by rw [beq_iff_eq]; omega
     have H_ok := Lib.hid e_ok
     clear e_ok
     by_cases e_os : r.o.s = 0
     ·have d_os : (r.o.s != 0) = false := by rw [bne_eq_false_iff_eq]; omega
      have g_os : (r.o.s == 0) = true := by rw [beq_iff_eq]; omega
      have H_os := Lib.hid e_os
      clear e_os
      by_cases e_ot : r.o.t = 0
      ·have d_ot : ((r.o.t : Int) != 0) = false := by rw [bne_eq_false_iff_eq]; omega
       have g_ot : ((r.o.t : Int) == 0) = true := by rw [beq_iff_eq]; omega
       have H_ot := Lib.hid e_ot
       clear e_ot
       by_cases e_om : r.o.m = 0
       ·have d_om : ((r.o.m : Int) != 0) = false := by rw [bne_eq_false_iff_eq]; omega
        have g_om : ((r.o.m : Int) == 0) = true := by rw [beq_iff_eq]; omega
        have H_om := Lib.hid e_om
        clear e_om
        by_cases e_nx : r.nx = 0
        ·have d_nx : ((r.nx : Int) != 0) = false := by rw [bne_eq_false_iff_eq]; omega
         have g_nx : ((r.nx : Int) == 0) = true := by rw [beq_iff_eq]; omega
         have H_nx := Lib.hid e_nx
         clear e_nx
         by_cases e_lm : r.lm = 0
         ·have d_lm : ((r.lm : Int) != 0) = false := by rw [bne_eq_false_iff_eq]; omega
          have g_lm : ((r.lm : Int) == 0) = true := by rw [beq_iff_eq]; omega
          have H_lm := Lib.hid e_lm
          clear e_lm
          by_cases e_dm : r.dm = 0
          ·have d_dm : ((r.dm : Int) != 0) = false := by rw [bne_eq_false_iff_eq]; omega
           have g_dm : ((r.dm : Int) == 0) = true := by rw [beq_iff_eq]; omega
           have H_dm := Lib.hid e_dm
           clear e_dm
           by_cases e_im : r.im = 0
           ·have d_im : ((r.im : Int) != 0) = false := by rw [bne_eq_false_iff_eq]; omega
            have g_im : ((r.im : Int) == 0) = true := by rw [beq_iff_eq]; omega
            have H_im := Lib.hid e_im
            clear e_im
            go_enter Tryz.func27, Tryz.ntmps27
            go_wp2_with fail
            go_ret
            refine .yes ?_ HBW.out
            have hk := HK.out
            obtain ⟨h1, h2, h3, h4⟩ := HLEN.out
            unfold okE fmE noopE uT uP uU uO uI uC RV.e OV.n
            simp [hk, h1, h2, h3, h4, H_b.out, H_pg.out, H_rt.out, H_ok.out, H_os.out, H_ot.out, H_om.out, H_nx.out, H_lm.out, H_dm.out, H_im.out]
           ·have d_im : ((r.im : Int) != 0) = true := bne_iff_ne.2 (by omega)
            have g_im : ((r.im : Int) == 0) = false := beq_false_of_ne (by omega)
            have HZ := Lib.hid e_im
            clear e_im
            go_enter Tryz.func27, Tryz.ntmps27
            go_wp2_with fail
            go_ret
            refine .no (fun h => ?_) HBW.out
            have hk := HK.out
            have hz := HZ.out
            obtain ⟨h1, h2, h3, h4⟩ := HLEN.out
            unfold okE fmE noopE uT uP uU uO uI uC RV.e OV.n at h
            simp [hk, hz, h1, h2, h3, h4] at h
          ·have d_dm : ((r.dm : Int) != 0) = true := bne_iff_ne.2 (by omega)
           have g_dm : ((r.dm : Int) == 0) = false := beq_false_of_ne (by omega)
           have HZ := Lib.hid e_dm
           clear e_dm
           go_enter Tryz.func27, Tryz.ntmps27
           go_wp2_with fail
           go_ret
           refine .no (fun h => ?_) HBW.out
           have hk := HK.out
           have hz := HZ.out
           obtain ⟨h1, h2, h3, h4⟩ := HLEN.out
           unfold okE fmE noopE uT uP uU uO uI uC RV.e OV.n at h
           simp [hk, hz, h1, h2, h3, h4] at h
         ·have d_lm : ((r.lm : Int) != 0) = true := bne_iff_ne.2 (by omega)
          have g_lm : ((r.lm : Int) == 0) = false := beq_false_of_ne (by omega)
          have HZ := Lib.hid e_lm
          clear e_lm
          go_enter Tryz.func27, Tryz.ntmps27
          go_wp2_with fail
          go_ret
          refine .no (fun h => ?_) HBW.out
          have hk := HK.out
          have hz := HZ.out
          obtain ⟨h1, h2, h3, h4⟩ := HLEN.out
          unfold okE fmE noopE uT uP uU uO uI uC RV.e OV.n at h
          simp [hk, hz, h1, h2, h3, h4] at h
        ·have d_nx : ((r.nx : Int) != 0) = true := bne_iff_ne.2 (by omega)
         have g_nx : ((r.nx : Int) == 0) = false := beq_false_of_ne (by omega)
         have HZ := Lib.hid e_nx
         clear e_nx
         go_enter Tryz.func27, Tryz.ntmps27
         go_wp2_with fail
         go_ret
         refine .no (fun h => ?_) HBW.out
         have hk := HK.out
         have hz := HZ.out
         obtain ⟨h1, h2, h3, h4⟩ := HLEN.out
         unfold okE fmE noopE uT uP uU uO uI uC RV.e OV.n at h
         simp [hk, hz, h1, h2, h3, h4] at h
       ·have d_om : ((r.o.m : Int) != 0) = true := bne_iff_ne.2 (by omega)
        have g_om : ((r.o.m : Int) == 0) = false := beq_false_of_ne (by omega)
        have HZ := Lib.hid e_om
        clear e_om
        go_enter Tryz.func27, Tryz.ntmps27
        go_wp2_with fail
        go_ret
        refine .no (fun h => ?_) HBW.out
        have hk := HK.out
        have hz := HZ.out
        obtain ⟨h1, h2, h3, h4⟩ := HLEN.out
        unfold okE fmE noopE uT uP uU uO uI uC RV.e OV.n at h
        simp [hk, hz, h1, h2, h3, h4] at h
      ·have d_ot : ((r.o.t : Int) != 0) = true := bne_iff_ne.2 (by omega)
       have g_ot : ((r.o.t : Int) == 0) = false := beq_false_of_ne (by omega)
       have HZ := Lib.hid e_ot
       clear e_ot
       go_enter Tryz.func27, Tryz.ntmps27
       go_wp2_with fail
       go_ret
       refine .no (fun h => ?_) HBW.out
       have hk := HK.out
       have hz := HZ.out
       obtain ⟨h1, h2, h3, h4⟩ := HLEN.out
       unfold okE fmE noopE uT uP uU uO uI uC RV.e OV.n at h
       simp [hk, hz, h1, h2, h3, h4] at h
     ·have d_os : (r.o.s != 0) = true := bne_iff_ne.2 (by omega)
      have g_os : (r.o.s == 0) = false := beq_false_of_ne (by omega)
      have HZ := Lib.hid e_os
      clear e_os
      go_enter Tryz.func27, Tryz.ntmps27
      go_wp2_with fail
      go_ret
      refine .no (fun h => ?_) HBW.out
      have hk := HK.out
      have hz := HZ.out
      obtain ⟨h1, h2, h3, h4⟩ := HLEN.out
      unfold okE fmE noopE uT uP uU uO uI uC RV.e OV.n at h
      simp [hk, hz, h1, h2, h3, h4] at h
    ·have d_ok : (r.o.k != 0) = true := bne_iff_ne.2 (by omega)
     have g_ok : (r.o.k == 0) = false := beq_false_of_ne (by omega)
     have HZ := Lib.hid e_ok
     clear e_ok
     go_enter Tryz.func27, Tryz.ntmps27
     go_wp2_with fail
     go_ret
     refine .no (fun h => ?_) HBW.out
     have hk := HK.out
     have hz := HZ.out
     obtain ⟨h1, h2, h3, h4⟩ := HLEN.out
     unfold okE fmE noopE uT uP uU uO uI uC RV.e OV.n at h
     simp [hk, hz, h1, h2, h3, h4] at h
   ·have d_rt : ((r.rt : Int) != 0) = true := bne_iff_ne.2 (by omega)
    have g_rt : ((r.rt : Int) == 0) = false := beq_false_of_ne (by omega)
    have HZ := Lib.hid e_rt
    clear e_rt
    go_enter Tryz.func27, Tryz.ntmps27
    go_wp2_with fail
    go_ret
    refine .no (fun h => ?_) HBW.out
    have hk := HK.out
    have hz := HZ.out
    obtain ⟨h1, h2, h3, h4⟩ := HLEN.out
    unfold okE fmE noopE uT uP uU uO uI uC RV.e OV.n at h
    simp [hk, hz, h1, h2, h3, h4] at h
  ·have d_pg : ((r.pg : Int) != 0) = true := bne_iff_ne.2 (by omega)
   have g_pg : ((r.pg : Int) == 0) = false := beq_false_of_ne (by omega)
   have HZ := Lib.hid e_pg
   clear e_pg
   go_enter Tryz.func27, Tryz.ntmps27
   go_wp2_with fail
   go_ret
   refine .no (fun h => ?_) HBW.out
   have hk := HK.out
   have hz := HZ.out
   obtain ⟨h1, h2, h3, h4⟩ := HLEN.out
   unfold okE fmE noopE uT uP uU uO uI uC RV.e OV.n at h
   simp [hk, hz, h1, h2, h3, h4] at h
 ·have d_b : ((r.b : Int) != 0) = true := bne_iff_ne.2 (by omega)
  have g_b : ((r.b : Int) == 0) = false := beq_false_of_ne (by omega)
  have HZ := Lib.hid e_b
  clear e_b
  go_enter Tryz.func27, Tryz.ntmps27
  go_wp2_with fail
  go_ret
  refine .no (fun h => ?_) HBW.out
  have hk := HK.out
  have hz := HZ.out
  obtain ⟨h1, h2, h3, h4⟩ := HLEN.out
  unfold okE fmE noopE uT uP uU uO uI uC RV.e OV.n at h
  simp [hk, hz, h1, h2, h3, h4] at h
set_option maxHeartbeats 16000000 in
theorem bare_8 (w : World) (r : RV) (h : r.In w All) (hk : r.k = 8) : Calls Tryz.prog 27 #[r.agg] w (Tells w (okE r.e = true)) := by
 obtain ⟨W, hW, hBW, hbx, hsz⟩ := box_rv w r
 obtain ⟨y0, y1, y2, y3, y4, y5, y6, y7, y8, y9, y10, y11, y12, y13, y14⟩ := rcs_cells hbx
 have HBW := Lib.hid hBW
 have HK := Lib.hid hk
 have HLEN := Lib.hid (show r.o.d.length = r.o.m ∧ r.il.length = r.im ∧ r.ll.length = r.lm ∧ r.dl.length = r.dm from ⟨h.o.b.len, h.i.1, h.l.1, h.d.1⟩)
 have c4 : (r.k == 4) = false := by rw [hk]; rfl
 have n4 : (r.k != 4) = true := by rw [hk]; rfl
 have c8 : (r.k == 8) = true := by rw [hk]; rfl
 have n8 : (r.k != 8) = false := by rw [hk]; rfl
 have c1 : (r.k == 1) = false := by rw [hk]; rfl
 have n1 : (r.k != 1) = true := by rw [hk]; rfl
 have c3 : (r.k == 3) = false := by rw [hk]; rfl
 have n3 : (r.k != 3) = true := by rw [hk]; rfl
 have c2 : (r.k == 2) = false := by rw [hk]; rfl
 have n2 : (r.k != 2) = true := by rw [hk]; rfl
 simp only [rcs] at hW
 unfold RV.agg
 clear h hBW hbx hsz hk
 by_cases e_t : r.t = 0
 ·have d_t : ((r.t : Int) != 0) = false := by rw [bne_eq_false_iff_eq]; omega
  have g_t : ((r.t : Int) == 0) = true := by rw [beq_iff_eq]; omega
  have H_t := Lib.hid e_t
  clear e_t
  by_cases e_a : r.a = 0
  ·have d_a : ((r.a : Int) != 0) = false := by rw [bne_eq_false_iff_eq]; omega
   have g_a : ((r.a : Int) == 0) = true := by rw [beq_iff_eq]; omega
   have H_a := Lib.hid e_a
   clear e_a
   by_cases e_b : r.b = 0
   ·have d_b : ((r.b : Int) != 0) = false := by rw [bne_eq_false_iff_eq]; omega
    have g_b : ((r.b : Int) == 0) = true := by rw [beq_iff_eq]; omega
    have H_b := Lib.hid e_b
    clear e_b
    by_cases e_pg : r.pg = 0
    ·have d_pg : ((r.pg : Int) != 0) = false := by rw [bne_eq_false_iff_eq]; omega
     have g_pg : ((r.pg : Int) == 0) = true := by rw [beq_iff_eq]; omega
     have H_pg := Lib.hid e_pg
     clear e_pg
     by_cases e_rt : r.rt = 0
     ·have d_rt : ((r.rt : Int) != 0) = false := by rw [bne_eq_false_iff_eq]; omega
      have g_rt : ((r.rt : Int) == 0) = true := by rw [beq_iff_eq]; omega
      have H_rt := Lib.hid e_rt
      clear e_rt
      by_cases e_ok : r.o.k = 0
      ·have d_ok : (r.o.k != 0) = false := by rw [bne_eq_false_iff_eq]; omega
       have g_ok : (r.o.k == 0) = true := by rw [beq_iff_eq]; omega
       have H_ok := Lib.hid e_ok
       clear e_ok
       by_cases e_os : r.o.s = 0
       ·have d_os : (r.o.s != 0) = false := by rw [bne_eq_false_iff_eq]; omega
        have g_os : (r.o.s == 0) = true := by rw [beq_iff_eq]; omega
        have H_os := Lib.hid e_os
        clear e_os
        by_cases e_ot : r.o.t = 0
        ·have d_ot : ((r.o.t : Int) != 0) = false := by rw [bne_eq_false_iff_eq]; omega
         have g_ot : ((r.o.t : Int) == 0) = true := by rw [beq_iff_eq]; omega
         have H_ot := Lib.hid e_ot
         clear e_ot
         by_cases e_om : r.o.m = 0
         ·have d_om : ((r.o.m : Int) != 0) = false := by rw [bne_eq_false_iff_eq]; omega
          have g_om : ((r.o.m : Int) == 0) = true := by rw [beq_iff_eq]; omega
          have H_om := Lib.hid e_om
          clear e_om
          by_cases e_im : r.im = 0
          ·have d_im : ((r.im : Int) != 0) = false := by rw [bne_eq_false_iff_eq]; omega
           have g_im : ((r.im : Int) == 0) = true := by rw [beq_iff_eq]; omega
           have H_im := Lib.hid e_im
           clear e_im
           go_enter Tryz.func27, Tryz.ntmps27
           go_wp2_with fail
           go_ret
           refine .yes ?_ HBW.out
           have hk := HK.out
           obtain ⟨h1, h2, h3, h4⟩ := HLEN.out
           unfold okE fmE noopE uT uP uU uO uI uC RV.e OV.n
           simp [hk, h1, h2, h3, h4, H_t.out, H_a.out, H_b.out, H_pg.out, H_rt.out, H_ok.out, H_os.out, H_ot.out, H_om.out, H_im.out]
          ·have d_im : ((r.im : Int) != 0) = true := bne_iff_ne.2 (by omega)
           have g_im : ((r.im : Int) == 0) = false := beq_false_of_ne (by omega)
           have HZ := Lib.hid e_im
           clear e_im
           go_enter Tryz.func27, Tryz.ntmps27
           go_wp2_with fail
           go_ret
           refine .no (fun h => ?_) HBW.out
           have hk := HK.out
           have hz := HZ.out
           obtain ⟨h1, h2, h3, h4⟩ := HLEN.out
           unfold okE fmE noopE uT uP uU uO uI uC RV.e OV.n at h
           simp [hk, hz, h1, h2, h3, h4] at h
         ·have d_om : ((r.o.m : Int) != 0) = true := bne_iff_ne.2 (by omega)
          have g_om : ((r.o.m : Int) == 0) = false := beq_false_of_ne (by omega)
          have HZ := Lib.hid e_om
          clear e_om
          go_enter Tryz.func27, Tryz.ntmps27
          go_wp2_with fail
          go_ret
          refine .no (fun h => ?_) HBW.out
          have hk := HK.out
          have hz := HZ.out
          obtain ⟨h1, h2, h3, h4⟩ := HLEN.out
          unfold okE fmE noopE uT uP uU uO uI uC RV.e OV.n at h
          simp [hk, hz, h1, h2, h3, h4] at h
        ·have d_ot : ((r.o.t : Int) != 0) = true := bne_iff_ne.2 (by omega)
         have g_ot : ((r.o.t : Int) == 0) = false := beq_false_of_ne (by omega)
         have HZ := Lib.hid e_ot
         clear e_ot
         go_enter Tryz.func27, Tryz.ntmps27
         go_wp2_with fail
         go_ret
         refine .no (fun h => ?_) HBW.out
         have hk := HK.out
         have hz := HZ.out
         obtain ⟨h1, h2, h3, h4⟩ := HLEN.out
         unfold okE fmE noopE uT uP uU uO uI uC RV.e OV.n at h
         simp [hk, hz, h1, h2, h3, h4] at h
       ·have d_os : (r.o.s != 0) = true := bne_iff_ne.2 (by omega)
        have g_os : (r.o.s == 0) = false := beq_false_of_ne (by omega)
        have HZ := Lib.hid e_os
        clear e_os
        go_enter Tryz.func27, Tryz.ntmps27
        go_wp2_with fail
        go_ret
        refine .no (fun h => ?_) HBW.out
        have hk := HK.out
        have hz := HZ.out
        obtain ⟨h1, h2, h3, h4⟩ := HLEN.out
        unfold okE fmE noopE uT uP uU uO uI uC RV.e OV.n at h
        simp [hk, hz, h1, h2, h3, h4] at h
      ·have d_ok : (r.o.k != 0) = true := bne_iff_ne.2 (by omega)
       have g_ok : (r.o.k == 0) = false := beq_false_of_ne (by omega)
       have HZ := Lib.hid e_ok
       clear e_ok
       go_enter Tryz.func27, Tryz.ntmps27
       go_wp2_with fail
       go_ret
       refine .no (fun h => ?_) HBW.out
       have hk := HK.out
       have hz := HZ.out
       obtain ⟨h1, h2, h3, h4⟩ := HLEN.out
       unfold okE fmE noopE uT uP uU uO uI uC RV.e OV.n at h
       simp [hk, hz, h1, h2, h3, h4] at h
     ·have d_rt : ((r.rt : Int) != 0) = true := bne_iff_ne.2 (by omega)
      have g_rt : ((r.rt : Int) == 0) = false := beq_false_of_ne (by omega)
      have HZ := Lib.hid e_rt
      clear e_rt
      go_enter Tryz.func27, Tryz.ntmps27
      go_wp2_with fail
      go_ret
      refine .no (fun h => ?_) HBW.out
      have hk := HK.out
      have hz := HZ.out
      obtain ⟨h1, h2, h3, h4⟩ := HLEN.out
      unfold okE fmE noopE uT uP uU uO uI uC RV.e OV.n at h
      simp [hk, hz, h1, h2, h3, h4] at h
    ·have d_pg : ((r.pg : Int) != 0) = true := bne_iff_ne.2 (by omega)
     have g_pg : ((r.pg : Int) == 0) = false := beq_false_of_ne (by omega)
     have HZ := Lib.hid e_pg
     clear e_pg
     go_enter Tryz.func27, Tryz.ntmps27
     go_wp2_with fail
     go_ret
     refine .no (fun h => ?_) HBW.out
     have hk := HK.out
     have hz := HZ.out
     obtain ⟨h1, h2, h3, h4⟩ := HLEN.out
     unfold okE fmE noopE uT uP uU uO uI uC RV.e OV.n at h
     simp [hk, hz, h1, h2, h3, h4] at h
   ·have d_b : ((r.b : Int) != 0) = true := bne_iff_ne.2 (by omega)
    have g_b : ((r.b : Int) == 0) = false := beq_false_of_ne (by omega)
    have HZ := Lib.hid e_b
    clear e_b
    go_enter Tryz.func27, Tryz.ntmps27
    go_wp2_with fail
    go_ret
    refine .no (fun h => ?_) HBW.out
    have hk := HK.out
    have hz := HZ.out
    obtain ⟨h1, h2, h3, h4⟩ := HLEN.out
    unfold okE fmE noopE uT uP uU uO uI uC RV.e OV.n at h
    simp [hk, hz, h1, h2, h3, h4] at h
  ·have d_a : ((r.a : Int) != 0) = true := bne_iff_ne.2 (by omega)
   have g_a : ((r.a : Int) == 0) = false := beq_false_of_ne (by omega)
   have HZ := Lib.hid e_a
   clear e_a
   go_enter Tryz.func27, Tryz.ntmps27
   go_wp2_with fail
   go_ret
   refine .no (fun h => ?_) HBW.out
   have hk := HK.out
   have hz := HZ.out
   obtain ⟨h1, h2, h3, h4⟩ := HLEN.out
   unfold okE fmE noopE uT uP uU uO uI uC RV.e OV.n at h
   simp [hk, hz, h1, h2, h3, h4] at h
 ·have d_t : ((r.t : Int) != 0) = true := bne_iff_ne.2 (by omega)
  have g_t : ((r.t : Int) == 0) = false := beq_false_of_ne (by omega)
  have HZ := Lib.hid e_t
  clear e_t
  go_enter Tryz.func27, Tryz.ntmps27
  go_wp2_with fail
  go_ret
  refine .no (fun h => ?_) HBW.out
  have hk := HK.out
  have hz := HZ.out
  obtain ⟨h1, h2, h3, h4⟩ := HLEN.out
  unfold okE fmE noopE uT uP uU uO uI uC RV.e OV.n at h
  simp [hk, hz, h1, h2, h3, h4] at h
theorem bare_any (w : World) (r : RV) (h : r.In w All) (hk : 1 ≤ r.k ∧ r.k ≤ 8) : Calls Tryz.prog 27 #[r.agg] w (Tells w (okE r.e = true)) := by
 rcases (show r.k = 1 ∨ r.k = 2 ∨ r.k = 3 ∨ r.k = 4 ∨ r.k = 5 ∨ r.k = 6 ∨ r.k = 7 ∨ r.k = 8 by omega) with e | e | e | e | e | e | e | e
 ·exact bare_1 w r h e
 ·exact bare_2 w r h e
 ·exact bare_3 w r h e
 ·exact bare_4 w r h e
 ·exact bare_5 w r h e
 ·exact bare_6 w r h e
 ·exact bare_7 w r h e
 ·exact bare_8 w r h e
end Go.Proofs.YtdhgbkibbileiaaGreat
