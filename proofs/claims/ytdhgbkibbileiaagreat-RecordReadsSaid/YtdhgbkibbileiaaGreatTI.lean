/-
TI
-/
import Derived.Test.YtdhgbkibbileiaaGreatTG
set_option maxRecDepth 100000
namespace Go.Proofs.YtdhgbkibbileiaaGreat
open Go.RowKit
set_option maxHeartbeats 8000000 in
theorem dmay_2a (w : World) (r : RV) (h : r.In w All) (hc : Brief r) (hk : r.k = 2) (hrt : r.rt = 0) : Calls Tryz.prog 14 #[r.agg] w (Tells w (bytesE r.e ≠ [])) := by
 obtain ⟨W, hW, hBW, hbx, hsz⟩ := box_rv w r
 obtain ⟨y0, y1, y2, y3, y4, y5, y6, y7, y8, y9, y10, y11, y12, y13, y14⟩ := rcs_cells hbx
 have hh := h.keep (Fr.of_below hBW No) fun _ _ hn => hn
 have HBW := Lib.hid hBW
 have HBX := Lib.hid hbx
 have HBA := Lib.hid (bare_any W r hh (by omega))
 have HF := Lib.hid (fun W' (hb : Below W.heap.size W W') => rfields_any W' r (hh.keep (Fr.of_below hb No) fun _ _ hn => hn) hc (by omega))
 have hol : r.o.d.length = r.o.m := h.o.b.len
 have hft : fitsE r.e = true ↔ r.pg ≠ 0 ∧ (((decide (r.o.k = 3) || decide (r.o.k = 4)) == decide ((2 : Int) = 3)) = true ∧ rightP 1 r.o.k r.o.s r.o.t r.o.m = true ∧ 0 ≤ r.o.s ∧ r.o.s < 60) ∧ r.t ≠ 0 := by
  have e1 : foE r.e = (((decide (r.o.k = 3) || decide (r.o.k = 4)) == decide ((2 : Int) = 3)) && (rightP 1 r.o.k r.o.s r.o.t r.o.m && (decide (0 ≤ r.o.s) && decide (r.o.s < 60)))) := by
   unfold foE RV.e OV.n
   simp only [hk, hol, hrt, if_true]
  unfold fitsE
  rw [if_pos (by unfold RV.e; simp only; omega), e1]
  unfold RV.e
  simp only [Bool.and_eq_true, decide_eq_true_eq]
 have HRG := Lib.hid (fun W' => rright_any 1 r.o W')
 have HIFF := Lib.hid (bytesE_iff r.e)
 have HFT := Lib.hid hft
 obtain ⟨fs, hfs⟩ : ∃ f, f = fieldsE r.e := ⟨_, rfl⟩
 have HLL : Hid (fs.length ≤ 1000000000) := Lib.hid (by rw [hfs]; exact fieldsE_le r h hc)
 rw [← hfs] at HF HIFF
 have HRW : Hid (okE r.e = true → r.im = 0 ∧ r.lm = 0 ∧ r.dm = 0) := Lib.hid (fun ho => by
  obtain ⟨h1, h2⟩ := okE_rows ho
  have h1 := h1 (show r.k ≠ 4 by omega)
  have h2 := h2 (show r.k ≠ 8 by omega)
  have h3 := h.i.1
  have h4 := h.l.1
  have h5 := h.d.1
  have e1 : r.il = [] := by unfold RV.e at h1; exact List.map_eq_nil_iff.1 h1
  have e2 : r.ll = [] := h2.1
  have e3 : r.dl = [] := h2.2
  rw [e1] at h3; rw [e2] at h4; rw [e3] at h5
  exact ⟨h3.symm, h4.symm, h5.symm⟩)
 have p1 : decide (r.k < 1) = false := decide_eq_false (by omega)
 have p8 : decide (r.k > 8) = false := decide_eq_false (by omega)
 have q8 : decide (8 < r.k) = false := decide_eq_false (by omega)
 have c4 : (r.k == 4) = false := beq_false_of_ne (by omega)
 have n4 : (r.k != 4) = true := bne_iff_ne.2 (by omega)
 have n8 : (r.k != 8) = true := bne_iff_ne.2 (by omega)
 have c3 : (r.k == 3) = false := beq_false_of_ne (by omega)
 have c2 : (r.k == 2) = true := by rw [hk]; rfl
 have d_rt : ((r.rt : Int) != 0) = false := by rw [bne_eq_false_iff_eq]; omega
 have HOI := Lib.hid h.o
 obtain ⟨ok, hok⟩ : ∃ ok, ok = okE r.e := ⟨_, rfl⟩
 obtain ⟨ft, hft⟩ : ∃ ft, ft = fitsE r.e := ⟨_, rfl⟩
 obtain ⟨bb, hbb⟩ : ∃ bb, bb = bytesE r.e := ⟨_, rfl⟩
 rw [← hok] at HBA HRW HIFF
 rw [← hft] at HFT HIFF
 rw [← hbb] at HIFF ⊢
 simp only [rcs] at hW
 unfold OV.agg at HRG
 unfold RV.agg at HBA HF ⊢
 clear hrt hol h hh hc hk hBW hbx hsz hfs hok hbb hft
 go_enter Tryz.func14, Tryz.ntmps14
 go_wp2_with fail
 with_reducible refine HBA.out.mono ?_
 unfold Tells
 rintro e w1 ⟨b1, rfl, hiff, hb1⟩
 have HI := Lib.hid hiff
 have HB1 := Lib.hid hb1
 obtain ⟨y0, y1, y2, y3, y4, y5, y6, y7, y8, y9, y10, y11, y12, y13, y14⟩ := rcs_cells (HBX.out.below hb1 HBX.out.lt)
 clear hiff hb1
 cases b1
 ·go_wp2_with fail
  go_ret
  refine ⟨false, rfl, ⟨fun h => absurd h (by decide), fun h => ?_⟩, HBW.out.trans (HB1.out.mono HBW.out.size)⟩
  have := HI.out.2 (HIFF.out.1 h).2.1
  exact absurd this (by decide)
 ·have HOK := Lib.hid (HI.out.1 rfl)
  have HZ := Lib.hid (HRW.out HOK.out)
  by_cases ht : r.t = 0
  ·have d0 : ((r.t : Int) == 0) = true := by rw [beq_iff_eq]; omega
   have HT := Lib.hid ht
   clear ht
   go_wp2_with fail
   go_ret
   refine ⟨false, rfl, ⟨fun h => absurd h (by decide), fun h => ?_⟩, HBW.out.trans (HB1.out.mono HBW.out.size)⟩
   have h9 := HFT.out.1 (HIFF.out.1 h).1
   exact absurd HT.out h9.2.2
  ·have d0 : ((r.t : Int) == 0) = false := beq_false_of_ne (by omega)
   have HT := Lib.hid ht
   clear ht
   by_cases hp : r.pg = 0
   ·have d1 : ((r.pg : Int) == 0) = true := by rw [beq_iff_eq]; omega
    have HP := Lib.hid hp
    clear hp
    by_cases hc3 : r.o.k = 3
    ·have k3 : (r.o.k == 3) = true := by rw [hc3]; rfl
     clear hc3
     go_wp2_with fail
     go_ret
     refine ⟨false, rfl, ⟨fun h => absurd h (by decide), fun h => ?_⟩, HBW.out.trans (HB1.out.mono HBW.out.size)⟩
     have h9 := HFT.out.1 (HIFF.out.1 h).1
     exact absurd HP.out h9.1
    ·have k3 : (r.o.k == 3) = false := beq_false_of_ne hc3
     clear hc3
     go_wp2_with fail
     go_ret
     refine ⟨false, rfl, ⟨fun h => absurd h (by decide), fun h => ?_⟩, HBW.out.trans (HB1.out.mono HBW.out.size)⟩
     have h9 := HFT.out.1 (HIFF.out.1 h).1
     exact absurd HP.out h9.1
   ·have d1 : ((r.pg : Int) == 0) = false := beq_false_of_ne (by omega)
    have HP := Lib.hid hp
    clear hp
    by_cases hc3 : r.o.k = 3
    ·have k3 : (r.o.k == 3) = true := by rw [hc3]; rfl
     have k4 : (r.o.k == 4) = false := by rw [hc3]; rfl
     have HU' : Hid ((decide (r.o.k = 3) || decide (r.o.k = 4)) = true) := Lib.hid (by simp [hc3])
     clear hc3
     go_wp2_with fail
     go_ret
     refine ⟨false, rfl, ⟨fun h => absurd h (by decide), fun h => ?_⟩, HBW.out.trans (HB1.out.mono HBW.out.size)⟩
     have h9 := HFT.out.1 (HIFF.out.1 h).1
     have := HU'.out
     rw [this] at h9
     exact absurd h9.2.1.1 (by decide)
    ·by_cases hc4 : r.o.k = 4
     ·have k3 : (r.o.k == 3) = false := by rw [hc4]; rfl
      have k4 : (r.o.k == 4) = true := by rw [hc4]; rfl
      have HU' : Hid ((decide (r.o.k = 3) || decide (r.o.k = 4)) = true) := Lib.hid (by simp [hc4])
      clear hc4 hc3
      go_wp2_with fail
      go_ret
      refine ⟨false, rfl, ⟨fun h => absurd h (by decide), fun h => ?_⟩, HBW.out.trans (HB1.out.mono HBW.out.size)⟩
      have h9 := HFT.out.1 (HIFF.out.1 h).1
      have := HU'.out
      rw [this] at h9
      exact absurd h9.2.1.1 (by decide)
     ·have k3 : (r.o.k == 3) = false := beq_false_of_ne hc3
      have k4 : (r.o.k == 4) = false := beq_false_of_ne hc4
      have HU' : Hid ((decide (r.o.k = 3) || decide (r.o.k = 4)) = false) := Lib.hid (by simp [hc3, hc4])
      have HU : Hid (((decide (r.o.k = 3) || decide (r.o.k = 4)) == decide ((2 : Int) = 3)) = true) := Lib.hid (by rw [HU'.out]; rfl)
      clear hc3 hc4
      have HG := Lib.hid (HRG.out w1)
      go_wp2_with fail
      with_reducible refine HG.out.mono ?_
      rintro e w3 ⟨rfl, hb3⟩
      have HB3 := Lib.hid (HB1.out.trans (hb3.mono HB1.out.size))
      obtain ⟨y0, y1, y2, y3, y4, y5, y6, y7, y8, y9, y10, y11, y12, y13, y14⟩ := rcs_cells (HBX.out.below HB3.out HBX.out.lt)
      rw [HZ.out.1] at y11
      rw [HZ.out.2.1] at y12
      rw [HZ.out.2.2] at y13
      obtain ⟨rg, hrg⟩ : ∃ b, b = rightP 1 r.o.k r.o.s r.o.t r.o.m := ⟨_, rfl⟩
      rw [← hrg]
      have HR' := Lib.hid hrg
      clear hb3 hrg
      cases rg
      ·go_wp2_with fail
       go_ret
       refine ⟨false, rfl, ⟨fun h => absurd h (by decide), fun h => ?_⟩, HBW.out.trans (HB3.out.mono HBW.out.size)⟩
       have h9 := HFT.out.1 (HIFF.out.1 h).1
       exact absurd (HR'.out.trans h9.2.1.2.1) (by decide)
      ·by_cases hs0 : r.o.s < 0
       ·have d7 : decide (r.o.s < 0) = true := decide_eq_true hs0
        have HS' := Lib.hid hs0
        clear hs0
        go_wp2_with fail
        go_ret
        refine ⟨false, rfl, ⟨fun h => absurd h (by decide), fun h => ?_⟩, HBW.out.trans (HB3.out.mono HBW.out.size)⟩
        have h9 := HFT.out.1 (HIFF.out.1 h).1
        have := h9.2.1.2.2.1
        have := HS'.out
        omega
       ·have d7 : decide (r.o.s < 0) = false := decide_eq_false hs0
        by_cases hs6 : r.o.s < 60
        ·have d8 : decide (r.o.s ≥ 60) = false := decide_eq_false (by omega)
         have d9 : decide (60 ≤ r.o.s) = false := decide_eq_false (by omega)
         have HS := Lib.hid (show 0 ≤ r.o.s ∧ r.o.s < 60 from ⟨by omega, hs6⟩)
         have HR := Lib.hid HR'.out.symm
         clear hs0 hs6
         have HCS : Hid (∀ wr, Below W.heap.size W wr → wr.cell? ⟨w.heap.size, 11, none⟩ = some (.slice r.iA 0 r.ic) ∧ wr.cell? ⟨w.heap.size, 12, none⟩ = some (.slice r.lA 0 r.lc) ∧ wr.cell? ⟨w.heap.size, 13, none⟩ = some (.slice r.dA 0 r.dc)) := Lib.hid (fun wr hb => by
          obtain ⟨y0, y1, y2, y3, y4, y5, y6, y7, y8, y9, y10, y11, y12, y13, y14⟩ := rcs_cells (HBX.out.below hb HBX.out.lt)
          rw [HZ.out.1] at y11
          rw [HZ.out.2.1] at y12
          rw [HZ.out.2.2] at y13
          exact ⟨y11, y12, y13⟩)
         go_wp2_with fail
         go_loopw [5, 6] (fun v i wr => v = .int .u32 0 ∧ i = .int .i64 0 ∧ w3 = wr) (fun _ _ _ => 0)
         case atStart => exact ⟨rfl, rfl, rfl⟩
         case round =>
          obtain ⟨rfl, rfl, rfl⟩ := hrel
          go_wp2_with fail
          go_loopw [5, 8] (fun v i wr => v = .int .u32 0 ∧ i = .int .i64 0 ∧ w3 = wr) (fun _ _ _ => 0)
          case atStart => exact ⟨rfl, rfl, rfl⟩
          case round =>
           obtain ⟨rfl, rfl, rfl⟩ := hrel
           go_wp2_with fail
           go_loopw [5, 9] (fun v i wr => v = .int .u32 0 ∧ i = .int .i64 0 ∧ w3 = wr) (fun _ _ _ => 0)
           case atStart => exact ⟨rfl, rfl, rfl⟩
           case round =>
            obtain ⟨rfl, rfl, rfl⟩ := hrel
            have hf1 := HF.out _ HB3.out
            rw [HZ.out.1, HZ.out.2.1, HZ.out.2.2] at hf1
            have HF1 := Lib.hid hf1
            clear hf1
            go_wp2_with fail
            with_reducible refine HF1.out.mono ?_
            unfold New
            rintro e w2 ⟨v2, rfl, ho2, hb2⟩
            obtain ⟨L, hL⟩ : ∃ L, L = fs.length := ⟨_, rfl⟩
            rw [← hL] at ho2 HIFF
            obtain ⟨A2, c2, rfl, _, _, _⟩ := ho2.reads
            have HB2 := Lib.hid (HB3.out.trans (hb2.mono HB3.out.size))
            have hLL : L ≤ 1000000000 := by rw [hL]; exact HLL.out
            have hWi : IntKind.i64.wrap ((L : Int) + 3) = (L : Int) + 3 := IntWalk.i64_in _ (by omega)
            clear ho2 hb2 hL hLL
            go_wp2_with fail
            go_ret
            refine ⟨_, rfl, ?_, HBW.out.trans (HB2.out.mono HBW.out.size)⟩
            rw [HIFF.out, HFT.out, decide_eq_true_eq]
            exact ⟨fun h => ⟨⟨HP.out, ⟨HU.out, HR.out, HS.out⟩, HT.out⟩, HOK.out, by omega⟩, fun h => by have := h.2.2; omega⟩
        ·have d8 : decide (r.o.s ≥ 60) = true := decide_eq_true (by omega)
         have d9 : decide (60 ≤ r.o.s) = true := decide_eq_true (by omega)
         have HS' := Lib.hid hs6
         clear hs0 hs6
         go_wp2_with fail
         go_ret
         refine ⟨false, rfl, ⟨fun h => absurd h (by decide), fun h => ?_⟩, HBW.out.trans (HB3.out.mono HBW.out.size)⟩
         have h9 := HFT.out.1 (HIFF.out.1 h).1
         have := h9.2.1.2.2.2
         have := HS'.out
         omega
set_option maxHeartbeats 8000000 in
theorem dmay_2b (w : World) (r : RV) (h : r.In w All) (hc : Brief r) (hk : r.k = 2) (hrt : r.rt ≠ 0) : Calls Tryz.prog 14 #[r.agg] w (Tells w (bytesE r.e ≠ [])) := by
 obtain ⟨W, hW, hBW, hbx, hsz⟩ := box_rv w r
 obtain ⟨y0, y1, y2, y3, y4, y5, y6, y7, y8, y9, y10, y11, y12, y13, y14⟩ := rcs_cells hbx
 have hh := h.keep (Fr.of_below hBW No) fun _ _ hn => hn
 have HBW := Lib.hid hBW
 have HBX := Lib.hid hbx
 have HBA := Lib.hid (bare_any W r hh (by omega))
 have HF := Lib.hid (fun W' (hb : Below W.heap.size W W') => rfields_any W' r (hh.keep (Fr.of_below hb No) fun _ _ hn => hn) hc (by omega))
 have hol : r.o.d.length = r.o.m := h.o.b.len
 have hft : fitsE r.e = true ↔ r.pg ≠ 0 ∧ (((decide (r.o.k = 3) || decide (r.o.k = 4)) == decide ((2 : Int) = 3)) = true ∧ rightP 2 r.o.k r.o.s r.o.t r.o.m = true ∧ 0 ≤ r.o.s ∧ r.o.s < 60) ∧ r.t ≠ 0 := by
  have e1 : foE r.e = (((decide (r.o.k = 3) || decide (r.o.k = 4)) == decide ((2 : Int) = 3)) && (rightP 2 r.o.k r.o.s r.o.t r.o.m && (decide (0 ≤ r.o.s) && decide (r.o.s < 60)))) := by
   unfold foE RV.e OV.n
   simp only [hk, hol, hrt, if_false]
  unfold fitsE
  rw [if_pos (by unfold RV.e; simp only; omega), e1]
  unfold RV.e
  simp only [Bool.and_eq_true, decide_eq_true_eq]
 have HRG := Lib.hid (fun W' => rright_any 2 r.o W')
 have HIFF := Lib.hid (bytesE_iff r.e)
 have HFT := Lib.hid hft
 obtain ⟨fs, hfs⟩ : ∃ f, f = fieldsE r.e := ⟨_, rfl⟩
 have HLL : Hid (fs.length ≤ 1000000000) := Lib.hid (by rw [hfs]; exact fieldsE_le r h hc)
 rw [← hfs] at HF HIFF
 have HRW : Hid (okE r.e = true → r.im = 0 ∧ r.lm = 0 ∧ r.dm = 0) := Lib.hid (fun ho => by
  obtain ⟨h1, h2⟩ := okE_rows ho
  have h1 := h1 (show r.k ≠ 4 by omega)
  have h2 := h2 (show r.k ≠ 8 by omega)
  have h3 := h.i.1
  have h4 := h.l.1
  have h5 := h.d.1
  have e1 : r.il = [] := by unfold RV.e at h1; exact List.map_eq_nil_iff.1 h1
  have e2 : r.ll = [] := h2.1
  have e3 : r.dl = [] := h2.2
  rw [e1] at h3; rw [e2] at h4; rw [e3] at h5
  exact ⟨h3.symm, h4.symm, h5.symm⟩)
 have p1 : decide (r.k < 1) = false := decide_eq_false (by omega)
 have p8 : decide (r.k > 8) = false := decide_eq_false (by omega)
 have q8 : decide (8 < r.k) = false := decide_eq_false (by omega)
 have c4 : (r.k == 4) = false := beq_false_of_ne (by omega)
 have n4 : (r.k != 4) = true := bne_iff_ne.2 (by omega)
 have n8 : (r.k != 8) = true := bne_iff_ne.2 (by omega)
 have c3 : (r.k == 3) = false := beq_false_of_ne (by omega)
 have c2 : (r.k == 2) = true := by rw [hk]; rfl
 have d_rt : ((r.rt : Int) != 0) = true := bne_iff_ne.2 (by omega)
 have HOI := Lib.hid h.o
 obtain ⟨ok, hok⟩ : ∃ ok, ok = okE r.e := ⟨_, rfl⟩
 obtain ⟨ft, hft⟩ : ∃ ft, ft = fitsE r.e := ⟨_, rfl⟩
 obtain ⟨bb, hbb⟩ : ∃ bb, bb = bytesE r.e := ⟨_, rfl⟩
 rw [← hok] at HBA HRW HIFF
 rw [← hft] at HFT HIFF
 rw [← hbb] at HIFF ⊢
 simp only [rcs] at hW
 unfold OV.agg at HRG
 unfold RV.agg at HBA HF ⊢
 clear hrt hol h hh hc hk hBW hbx hsz hfs hok hbb hft
 go_enter Tryz.func14, Tryz.ntmps14
 go_wp2_with fail
 with_reducible refine HBA.out.mono ?_
 unfold Tells
 rintro e w1 ⟨b1, rfl, hiff, hb1⟩
 have HI := Lib.hid hiff
 have HB1 := Lib.hid hb1
 obtain ⟨y0, y1, y2, y3, y4, y5, y6, y7, y8, y9, y10, y11, y12, y13, y14⟩ := rcs_cells (HBX.out.below hb1 HBX.out.lt)
 clear hiff hb1
 cases b1
 ·go_wp2_with fail
  go_ret
  refine ⟨false, rfl, ⟨fun h => absurd h (by decide), fun h => ?_⟩, HBW.out.trans (HB1.out.mono HBW.out.size)⟩
  have := HI.out.2 (HIFF.out.1 h).2.1
  exact absurd this (by decide)
 ·have HOK := Lib.hid (HI.out.1 rfl)
  have HZ := Lib.hid (HRW.out HOK.out)
  by_cases ht : r.t = 0
  ·have d0 : ((r.t : Int) == 0) = true := by rw [beq_iff_eq]; omega
   have HT := Lib.hid ht
   clear ht
   go_wp2_with fail
   go_ret
   refine ⟨false, rfl, ⟨fun h => absurd h (by decide), fun h => ?_⟩, HBW.out.trans (HB1.out.mono HBW.out.size)⟩
   have h9 := HFT.out.1 (HIFF.out.1 h).1
   exact absurd HT.out h9.2.2
  ·have d0 : ((r.t : Int) == 0) = false := beq_false_of_ne (by omega)
   have HT := Lib.hid ht
   clear ht
   by_cases hp : r.pg = 0
   ·have d1 : ((r.pg : Int) == 0) = true := by rw [beq_iff_eq]; omega
    have HP := Lib.hid hp
    clear hp
    by_cases hc3 : r.o.k = 3
    ·have k3 : (r.o.k == 3) = true := by rw [hc3]; rfl
     clear hc3
     go_wp2_with fail
     go_ret
     refine ⟨false, rfl, ⟨fun h => absurd h (by decide), fun h => ?_⟩, HBW.out.trans (HB1.out.mono HBW.out.size)⟩
     have h9 := HFT.out.1 (HIFF.out.1 h).1
     exact absurd HP.out h9.1
    ·have k3 : (r.o.k == 3) = false := beq_false_of_ne hc3
     clear hc3
     go_wp2_with fail
     go_ret
     refine ⟨false, rfl, ⟨fun h => absurd h (by decide), fun h => ?_⟩, HBW.out.trans (HB1.out.mono HBW.out.size)⟩
     have h9 := HFT.out.1 (HIFF.out.1 h).1
     exact absurd HP.out h9.1
   ·have d1 : ((r.pg : Int) == 0) = false := beq_false_of_ne (by omega)
    have HP := Lib.hid hp
    clear hp
    by_cases hc3 : r.o.k = 3
    ·have k3 : (r.o.k == 3) = true := by rw [hc3]; rfl
     have k4 : (r.o.k == 4) = false := by rw [hc3]; rfl
     have HU' : Hid ((decide (r.o.k = 3) || decide (r.o.k = 4)) = true) := Lib.hid (by simp [hc3])
     clear hc3
     go_wp2_with fail
     go_ret
     refine ⟨false, rfl, ⟨fun h => absurd h (by decide), fun h => ?_⟩, HBW.out.trans (HB1.out.mono HBW.out.size)⟩
     have h9 := HFT.out.1 (HIFF.out.1 h).1
     have := HU'.out
     rw [this] at h9
     exact absurd h9.2.1.1 (by decide)
    ·by_cases hc4 : r.o.k = 4
     ·have k3 : (r.o.k == 3) = false := by rw [hc4]; rfl
      have k4 : (r.o.k == 4) = true := by rw [hc4]; rfl
      have HU' : Hid ((decide (r.o.k = 3) || decide (r.o.k = 4)) = true) := Lib.hid (by simp [hc4])
      clear hc4 hc3
      go_wp2_with fail
      go_ret
      refine ⟨false, rfl, ⟨fun h => absurd h (by decide), fun h => ?_⟩, HBW.out.trans (HB1.out.mono HBW.out.size)⟩
      have h9 := HFT.out.1 (HIFF.out.1 h).1
      have := HU'.out
      rw [this] at h9
      exact absurd h9.2.1.1 (by decide)
     ·have k3 : (r.o.k == 3) = false := beq_false_of_ne hc3
      have k4 : (r.o.k == 4) = false := beq_false_of_ne hc4
      have HU' : Hid ((decide (r.o.k = 3) || decide (r.o.k = 4)) = false) := Lib.hid (by simp [hc3, hc4])
      have HU : Hid (((decide (r.o.k = 3) || decide (r.o.k = 4)) == decide ((2 : Int) = 3)) = true) := Lib.hid (by rw [HU'.out]; rfl)
      clear hc3 hc4
      have HG := Lib.hid (HRG.out w1)
      go_wp2_with fail
      with_reducible refine HG.out.mono ?_
      rintro e w3 ⟨rfl, hb3⟩
      have HB3 := Lib.hid (HB1.out.trans (hb3.mono HB1.out.size))
      obtain ⟨y0, y1, y2, y3, y4, y5, y6, y7, y8, y9, y10, y11, y12, y13, y14⟩ := rcs_cells (HBX.out.below HB3.out HBX.out.lt)
      rw [HZ.out.1] at y11
      rw [HZ.out.2.1] at y12
      rw [HZ.out.2.2] at y13
      obtain ⟨rg, hrg⟩ : ∃ b, b = rightP 2 r.o.k r.o.s r.o.t r.o.m := ⟨_, rfl⟩
      rw [← hrg]
      have HR' := Lib.hid hrg
      clear hb3 hrg
      cases rg
      ·go_wp2_with fail
       go_ret
       refine ⟨false, rfl, ⟨fun h => absurd h (by decide), fun h => ?_⟩, HBW.out.trans (HB3.out.mono HBW.out.size)⟩
       have h9 := HFT.out.1 (HIFF.out.1 h).1
       exact absurd (HR'.out.trans h9.2.1.2.1) (by decide)
      ·by_cases hs0 : r.o.s < 0
       ·have d7 : decide (r.o.s < 0) = true := decide_eq_true hs0
        have HS' := Lib.hid hs0
        clear hs0
        go_wp2_with fail
        go_ret
        refine ⟨false, rfl, ⟨fun h => absurd h (by decide), fun h => ?_⟩, HBW.out.trans (HB3.out.mono HBW.out.size)⟩
        have h9 := HFT.out.1 (HIFF.out.1 h).1
        have := h9.2.1.2.2.1
        have := HS'.out
        omega
       ·have d7 : decide (r.o.s < 0) = false := decide_eq_false hs0
        by_cases hs6 : r.o.s < 60
        ·have d8 : decide (r.o.s ≥ 60) = false := decide_eq_false (by omega)
         have d9 : decide (60 ≤ r.o.s) = false := decide_eq_false (by omega)
         have HS := Lib.hid (show 0 ≤ r.o.s ∧ r.o.s < 60 from ⟨by omega, hs6⟩)
         have HR := Lib.hid HR'.out.symm
         clear hs0 hs6
         have HCS : Hid (∀ wr, Below W.heap.size W wr → wr.cell? ⟨w.heap.size, 11, none⟩ = some (.slice r.iA 0 r.ic) ∧ wr.cell? ⟨w.heap.size, 12, none⟩ = some (.slice r.lA 0 r.lc) ∧ wr.cell? ⟨w.heap.size, 13, none⟩ = some (.slice r.dA 0 r.dc)) := Lib.hid (fun wr hb => by
          obtain ⟨y0, y1, y2, y3, y4, y5, y6, y7, y8, y9, y10, y11, y12, y13, y14⟩ := rcs_cells (HBX.out.below hb HBX.out.lt)
          rw [HZ.out.1] at y11
          rw [HZ.out.2.1] at y12
          rw [HZ.out.2.2] at y13
          exact ⟨y11, y12, y13⟩)
         go_wp2_with fail
         go_loopw [5, 6] (fun v i wr => v = .int .u32 0 ∧ i = .int .i64 0 ∧ w3 = wr) (fun _ _ _ => 0)
         case atStart => exact ⟨rfl, rfl, rfl⟩
         case round =>
          obtain ⟨rfl, rfl, rfl⟩ := hrel
          go_wp2_with fail
          go_loopw [5, 8] (fun v i wr => v = .int .u32 0 ∧ i = .int .i64 0 ∧ w3 = wr) (fun _ _ _ => 0)
          case atStart => exact ⟨rfl, rfl, rfl⟩
          case round =>
           obtain ⟨rfl, rfl, rfl⟩ := hrel
           go_wp2_with fail
           go_loopw [5, 9] (fun v i wr => v = .int .u32 0 ∧ i = .int .i64 0 ∧ w3 = wr) (fun _ _ _ => 0)
           case atStart => exact ⟨rfl, rfl, rfl⟩
           case round =>
            obtain ⟨rfl, rfl, rfl⟩ := hrel
            have hf1 := HF.out _ HB3.out
            rw [HZ.out.1, HZ.out.2.1, HZ.out.2.2] at hf1
            have HF1 := Lib.hid hf1
            clear hf1
            go_wp2_with fail
            with_reducible refine HF1.out.mono ?_
            unfold New
            rintro e w2 ⟨v2, rfl, ho2, hb2⟩
            obtain ⟨L, hL⟩ : ∃ L, L = fs.length := ⟨_, rfl⟩
            rw [← hL] at ho2 HIFF
            obtain ⟨A2, c2, rfl, _, _, _⟩ := ho2.reads
            have HB2 := Lib.hid (HB3.out.trans (hb2.mono HB3.out.size))
            have hLL : L ≤ 1000000000 := by rw [hL]; exact HLL.out
            have hWi : IntKind.i64.wrap ((L : Int) + 3) = (L : Int) + 3 := IntWalk.i64_in _ (by omega)
            clear ho2 hb2 hL hLL
            go_wp2_with fail
            go_ret
            refine ⟨_, rfl, ?_, HBW.out.trans (HB2.out.mono HBW.out.size)⟩
            rw [HIFF.out, HFT.out, decide_eq_true_eq]
            exact ⟨fun h => ⟨⟨HP.out, ⟨HU.out, HR.out, HS.out⟩, HT.out⟩, HOK.out, by omega⟩, fun h => by have := h.2.2; omega⟩
        ·have d8 : decide (r.o.s ≥ 60) = true := decide_eq_true (by omega)
         have d9 : decide (60 ≤ r.o.s) = true := decide_eq_true (by omega)
         have HS' := Lib.hid hs6
         clear hs0 hs6
         go_wp2_with fail
         go_ret
         refine ⟨false, rfl, ⟨fun h => absurd h (by decide), fun h => ?_⟩, HBW.out.trans (HB3.out.mono HBW.out.size)⟩
         have h9 := HFT.out.1 (HIFF.out.1 h).1
         have := h9.2.1.2.2.2
         have := HS'.out
         omega
set_option maxHeartbeats 8000000 in
theorem dmay_3a (w : World) (r : RV) (h : r.In w All) (hc : Brief r) (hk : r.k = 3) (hrt : r.rt = 0) : Calls Tryz.prog 14 #[r.agg] w (Tells w (bytesE r.e ≠ [])) := by
 obtain ⟨W, hW, hBW, hbx, hsz⟩ := box_rv w r
 obtain ⟨y0, y1, y2, y3, y4, y5, y6, y7, y8, y9, y10, y11, y12, y13, y14⟩ := rcs_cells hbx
 have hh := h.keep (Fr.of_below hBW No) fun _ _ hn => hn
 have HBW := Lib.hid hBW
 have HBX := Lib.hid hbx
 have HBA := Lib.hid (bare_any W r hh (by omega))
 have HF := Lib.hid (fun W' (hb : Below W.heap.size W W') => rfields_any W' r (hh.keep (Fr.of_below hb No) fun _ _ hn => hn) hc (by omega))
 have hol : r.o.d.length = r.o.m := h.o.b.len
 have hft : fitsE r.e = true ↔ r.pg ≠ 0 ∧ (((decide (r.o.k = 3) || decide (r.o.k = 4)) == decide ((3 : Int) = 3)) = true ∧ rightP 1 r.o.k r.o.s r.o.t r.o.m = true ∧ 0 ≤ r.o.s ∧ r.o.s < 60) ∧ r.t ≠ 0 := by
  have e1 : foE r.e = (((decide (r.o.k = 3) || decide (r.o.k = 4)) == decide ((3 : Int) = 3)) && (rightP 1 r.o.k r.o.s r.o.t r.o.m && (decide (0 ≤ r.o.s) && decide (r.o.s < 60)))) := by
   unfold foE RV.e OV.n
   simp only [hk, hol, hrt, if_true]
  unfold fitsE
  rw [if_pos (by unfold RV.e; simp only; omega), e1]
  unfold RV.e
  simp only [Bool.and_eq_true, decide_eq_true_eq]
 have HRG := Lib.hid (fun W' => rright_any 1 r.o W')
 have HIFF := Lib.hid (bytesE_iff r.e)
 have HFT := Lib.hid hft
 obtain ⟨fs, hfs⟩ : ∃ f, f = fieldsE r.e := ⟨_, rfl⟩
 have HLL : Hid (fs.length ≤ 1000000000) := Lib.hid (by rw [hfs]; exact fieldsE_le r h hc)
 rw [← hfs] at HF HIFF
 have HRW : Hid (okE r.e = true → r.im = 0 ∧ r.lm = 0 ∧ r.dm = 0) := Lib.hid (fun ho => by
  obtain ⟨h1, h2⟩ := okE_rows ho
  have h1 := h1 (show r.k ≠ 4 by omega)
  have h2 := h2 (show r.k ≠ 8 by omega)
  have h3 := h.i.1
  have h4 := h.l.1
  have h5 := h.d.1
  have e1 : r.il = [] := by unfold RV.e at h1; exact List.map_eq_nil_iff.1 h1
  have e2 : r.ll = [] := h2.1
  have e3 : r.dl = [] := h2.2
  rw [e1] at h3; rw [e2] at h4; rw [e3] at h5
  exact ⟨h3.symm, h4.symm, h5.symm⟩)
 have p1 : decide (r.k < 1) = false := decide_eq_false (by omega)
 have p8 : decide (r.k > 8) = false := decide_eq_false (by omega)
 have q8 : decide (8 < r.k) = false := decide_eq_false (by omega)
 have c4 : (r.k == 4) = false := beq_false_of_ne (by omega)
 have n4 : (r.k != 4) = true := bne_iff_ne.2 (by omega)
 have n8 : (r.k != 8) = true := bne_iff_ne.2 (by omega)
 have c3 : (r.k == 3) = true := by rw [hk]; rfl
 have c2 : (r.k == 2) = false := beq_false_of_ne (by omega)
 have d_rt : ((r.rt : Int) != 0) = false := by rw [bne_eq_false_iff_eq]; omega
 have HOI := Lib.hid h.o
 obtain ⟨ok, hok⟩ : ∃ ok, ok = okE r.e := ⟨_, rfl⟩
 obtain ⟨ft, hft⟩ : ∃ ft, ft = fitsE r.e := ⟨_, rfl⟩
 obtain ⟨bb, hbb⟩ : ∃ bb, bb = bytesE r.e := ⟨_, rfl⟩
 rw [← hok] at HBA HRW HIFF
 rw [← hft] at HFT HIFF
 rw [← hbb] at HIFF ⊢
 simp only [rcs] at hW
 unfold OV.agg at HRG
 unfold RV.agg at HBA HF ⊢
 clear hrt hol h hh hc hk hBW hbx hsz hfs hok hbb hft
 go_enter Tryz.func14, Tryz.ntmps14
 go_wp2_with fail
 with_reducible refine HBA.out.mono ?_
 unfold Tells
 rintro e w1 ⟨b1, rfl, hiff, hb1⟩
 have HI := Lib.hid hiff
 have HB1 := Lib.hid hb1
 obtain ⟨y0, y1, y2, y3, y4, y5, y6, y7, y8, y9, y10, y11, y12, y13, y14⟩ := rcs_cells (HBX.out.below hb1 HBX.out.lt)
 clear hiff hb1
 cases b1
 ·go_wp2_with fail
  go_ret
  refine ⟨false, rfl, ⟨fun h => absurd h (by decide), fun h => ?_⟩, HBW.out.trans (HB1.out.mono HBW.out.size)⟩
  have := HI.out.2 (HIFF.out.1 h).2.1
  exact absurd this (by decide)
 ·have HOK := Lib.hid (HI.out.1 rfl)
  have HZ := Lib.hid (HRW.out HOK.out)
  by_cases ht : r.t = 0
  ·have d0 : ((r.t : Int) == 0) = true := by rw [beq_iff_eq]; omega
   have HT := Lib.hid ht
   clear ht
   go_wp2_with fail
   go_ret
   refine ⟨false, rfl, ⟨fun h => absurd h (by decide), fun h => ?_⟩, HBW.out.trans (HB1.out.mono HBW.out.size)⟩
   have h9 := HFT.out.1 (HIFF.out.1 h).1
   exact absurd HT.out h9.2.2
  ·have d0 : ((r.t : Int) == 0) = false := beq_false_of_ne (by omega)
   have HT := Lib.hid ht
   clear ht
   by_cases hp : r.pg = 0
   ·have d1 : ((r.pg : Int) == 0) = true := by rw [beq_iff_eq]; omega
    have HP := Lib.hid hp
    clear hp
    by_cases hc3 : r.o.k = 3
    ·have k3 : (r.o.k == 3) = true := by rw [hc3]; rfl
     clear hc3
     go_wp2_with fail
     go_ret
     refine ⟨false, rfl, ⟨fun h => absurd h (by decide), fun h => ?_⟩, HBW.out.trans (HB1.out.mono HBW.out.size)⟩
     have h9 := HFT.out.1 (HIFF.out.1 h).1
     exact absurd HP.out h9.1
    ·have k3 : (r.o.k == 3) = false := beq_false_of_ne hc3
     clear hc3
     go_wp2_with fail
     go_ret
     refine ⟨false, rfl, ⟨fun h => absurd h (by decide), fun h => ?_⟩, HBW.out.trans (HB1.out.mono HBW.out.size)⟩
     have h9 := HFT.out.1 (HIFF.out.1 h).1
     exact absurd HP.out h9.1
   ·have d1 : ((r.pg : Int) == 0) = false := beq_false_of_ne (by omega)
    have HP := Lib.hid hp
    clear hp
    by_cases hc3 : r.o.k = 3
    ·have k3 : (r.o.k == 3) = true := by rw [hc3]; rfl
     have k4 : (r.o.k == 4) = false := by rw [hc3]; rfl
     have HU' : Hid ((decide (r.o.k = 3) || decide (r.o.k = 4)) = true) := Lib.hid (by simp [hc3])
     have HU : Hid (((decide (r.o.k = 3) || decide (r.o.k = 4)) == decide ((3 : Int) = 3)) = true) := Lib.hid (by rw [HU'.out]; rfl)
     clear hc3
     have HG := Lib.hid (HRG.out w1)
     go_wp2_with fail
     with_reducible refine HG.out.mono ?_
     rintro e w3 ⟨rfl, hb3⟩
     have HB3 := Lib.hid (HB1.out.trans (hb3.mono HB1.out.size))
     obtain ⟨y0, y1, y2, y3, y4, y5, y6, y7, y8, y9, y10, y11, y12, y13, y14⟩ := rcs_cells (HBX.out.below HB3.out HBX.out.lt)
     rw [HZ.out.1] at y11
     rw [HZ.out.2.1] at y12
     rw [HZ.out.2.2] at y13
     obtain ⟨rg, hrg⟩ : ∃ b, b = rightP 1 r.o.k r.o.s r.o.t r.o.m := ⟨_, rfl⟩
     rw [← hrg]
     have HR' := Lib.hid hrg
     clear hb3 hrg
     cases rg
     ·go_wp2_with fail
      go_ret
      refine ⟨false, rfl, ⟨fun h => absurd h (by decide), fun h => ?_⟩, HBW.out.trans (HB3.out.mono HBW.out.size)⟩
      have h9 := HFT.out.1 (HIFF.out.1 h).1
      exact absurd (HR'.out.trans h9.2.1.2.1) (by decide)
     ·by_cases hs0 : r.o.s < 0
      ·have d7 : decide (r.o.s < 0) = true := decide_eq_true hs0
       have HS' := Lib.hid hs0
       clear hs0
       go_wp2_with fail
       go_ret
       refine ⟨false, rfl, ⟨fun h => absurd h (by decide), fun h => ?_⟩, HBW.out.trans (HB3.out.mono HBW.out.size)⟩
       have h9 := HFT.out.1 (HIFF.out.1 h).1
       have := h9.2.1.2.2.1
       have := HS'.out
       omega
      ·have d7 : decide (r.o.s < 0) = false := decide_eq_false hs0
       by_cases hs6 : r.o.s < 60
       ·have d8 : decide (r.o.s ≥ 60) = false := decide_eq_false (by omega)
        have d9 : decide (60 ≤ r.o.s) = false := decide_eq_false (by omega)
        have HS := Lib.hid (show 0 ≤ r.o.s ∧ r.o.s < 60 from ⟨by omega, hs6⟩)
        have HR := Lib.hid HR'.out.symm
        clear hs0 hs6
        have HCS : Hid (∀ wr, Below W.heap.size W wr → wr.cell? ⟨w.heap.size, 11, none⟩ = some (.slice r.iA 0 r.ic) ∧ wr.cell? ⟨w.heap.size, 12, none⟩ = some (.slice r.lA 0 r.lc) ∧ wr.cell? ⟨w.heap.size, 13, none⟩ = some (.slice r.dA 0 r.dc)) := Lib.hid (fun wr hb => by
         obtain ⟨y0, y1, y2, y3, y4, y5, y6, y7, y8, y9, y10, y11, y12, y13, y14⟩ := rcs_cells (HBX.out.below hb HBX.out.lt)
         rw [HZ.out.1] at y11
         rw [HZ.out.2.1] at y12
         rw [HZ.out.2.2] at y13
         exact ⟨y11, y12, y13⟩)
        go_wp2_with fail
        go_loopw [5, 6] (fun v i wr => v = .int .u32 0 ∧ i = .int .i64 0 ∧ w3 = wr) (fun _ _ _ => 0)
        case atStart => exact ⟨rfl, rfl, rfl⟩
        case round =>
         obtain ⟨rfl, rfl, rfl⟩ := hrel
         go_wp2_with fail
         go_loopw [5, 8] (fun v i wr => v = .int .u32 0 ∧ i = .int .i64 0 ∧ w3 = wr) (fun _ _ _ => 0)
         case atStart => exact ⟨rfl, rfl, rfl⟩
         case round =>
          obtain ⟨rfl, rfl, rfl⟩ := hrel
          go_wp2_with fail
          go_loopw [5, 9] (fun v i wr => v = .int .u32 0 ∧ i = .int .i64 0 ∧ w3 = wr) (fun _ _ _ => 0)
          case atStart => exact ⟨rfl, rfl, rfl⟩
          case round =>
           obtain ⟨rfl, rfl, rfl⟩ := hrel
           have hf1 := HF.out _ HB3.out
           rw [HZ.out.1, HZ.out.2.1, HZ.out.2.2] at hf1
           have HF1 := Lib.hid hf1
           clear hf1
           go_wp2_with fail
           with_reducible refine HF1.out.mono ?_
           unfold New
           rintro e w2 ⟨v2, rfl, ho2, hb2⟩
           obtain ⟨L, hL⟩ : ∃ L, L = fs.length := ⟨_, rfl⟩
           rw [← hL] at ho2 HIFF
           obtain ⟨A2, c2, rfl, _, _, _⟩ := ho2.reads
           have HB2 := Lib.hid (HB3.out.trans (hb2.mono HB3.out.size))
           have hLL : L ≤ 1000000000 := by rw [hL]; exact HLL.out
           have hWi : IntKind.i64.wrap ((L : Int) + 3) = (L : Int) + 3 := IntWalk.i64_in _ (by omega)
           clear ho2 hb2 hL hLL
           go_wp2_with fail
           go_ret
           refine ⟨_, rfl, ?_, HBW.out.trans (HB2.out.mono HBW.out.size)⟩
           rw [HIFF.out, HFT.out, decide_eq_true_eq]
           exact ⟨fun h => ⟨⟨HP.out, ⟨HU.out, HR.out, HS.out⟩, HT.out⟩, HOK.out, by omega⟩, fun h => by have := h.2.2; omega⟩
       ·have d8 : decide (r.o.s ≥ 60) = true := decide_eq_true (by omega)
        have d9 : decide (60 ≤ r.o.s) = true := decide_eq_true (by omega)
        have HS' := Lib.hid hs6
        clear hs0 hs6
        go_wp2_with fail
        go_ret
        refine ⟨false, rfl, ⟨fun h => absurd h (by decide), fun h => ?_⟩, HBW.out.trans (HB3.out.mono HBW.out.size)⟩
        have h9 := HFT.out.1 (HIFF.out.1 h).1
        have := h9.2.1.2.2.2
        have := HS'.out
        omega
    ·by_cases hc4 : r.o.k = 4
     ·have k3 : (r.o.k == 3) = false := by rw [hc4]; rfl
      have k4 : (r.o.k == 4) = true := by rw [hc4]; rfl
      have HU' : Hid ((decide (r.o.k = 3) || decide (r.o.k = 4)) = true) := Lib.hid (by simp [hc4])
      have HU : Hid (((decide (r.o.k = 3) || decide (r.o.k = 4)) == decide ((3 : Int) = 3)) = true) := Lib.hid (by rw [HU'.out]; rfl)
      clear hc4 hc3
      have HG := Lib.hid (HRG.out w1)
      go_wp2_with fail
      with_reducible refine HG.out.mono ?_
      rintro e w3 ⟨rfl, hb3⟩
      have HB3 := Lib.hid (HB1.out.trans (hb3.mono HB1.out.size))
      obtain ⟨y0, y1, y2, y3, y4, y5, y6, y7, y8, y9, y10, y11, y12, y13, y14⟩ := rcs_cells (HBX.out.below HB3.out HBX.out.lt)
      rw [HZ.out.1] at y11
      rw [HZ.out.2.1] at y12
      rw [HZ.out.2.2] at y13
      obtain ⟨rg, hrg⟩ : ∃ b, b = rightP 1 r.o.k r.o.s r.o.t r.o.m := ⟨_, rfl⟩
      rw [← hrg]
      have HR' := Lib.hid hrg
      clear hb3 hrg
      cases rg
      ·go_wp2_with fail
       go_ret
       refine ⟨false, rfl, ⟨fun h => absurd h (by decide), fun h => ?_⟩, HBW.out.trans (HB3.out.mono HBW.out.size)⟩
       have h9 := HFT.out.1 (HIFF.out.1 h).1
       exact absurd (HR'.out.trans h9.2.1.2.1) (by decide)
      ·by_cases hs0 : r.o.s < 0
       ·have d7 : decide (r.o.s < 0) = true := decide_eq_true hs0
        have HS' := Lib.hid hs0
        clear hs0
        go_wp2_with fail
        go_ret
        refine ⟨false, rfl, ⟨fun h => absurd h (by decide), fun h => ?_⟩, HBW.out.trans (HB3.out.mono HBW.out.size)⟩
        have h9 := HFT.out.1 (HIFF.out.1 h).1
        have := h9.2.1.2.2.1
        have := HS'.out
        omega
       ·have d7 : decide (r.o.s < 0) = false := decide_eq_false hs0
        by_cases hs6 : r.o.s < 60
        ·have d8 : decide (r.o.s ≥ 60) = false := decide_eq_false (by omega)
         have d9 : decide (60 ≤ r.o.s) = false := decide_eq_false (by omega)
         have HS := Lib.hid (show 0 ≤ r.o.s ∧ r.o.s < 60 from ⟨by omega, hs6⟩)
         have HR := Lib.hid HR'.out.symm
         clear hs0 hs6
         have HCS : Hid (∀ wr, Below W.heap.size W wr → wr.cell? ⟨w.heap.size, 11, none⟩ = some (.slice r.iA 0 r.ic) ∧ wr.cell? ⟨w.heap.size, 12, none⟩ = some (.slice r.lA 0 r.lc) ∧ wr.cell? ⟨w.heap.size, 13, none⟩ = some (.slice r.dA 0 r.dc)) := Lib.hid (fun wr hb => by
          obtain ⟨y0, y1, y2, y3, y4, y5, y6, y7, y8, y9, y10, y11, y12, y13, y14⟩ := rcs_cells (HBX.out.below hb HBX.out.lt)
          rw [HZ.out.1] at y11
          rw [HZ.out.2.1] at y12
          rw [HZ.out.2.2] at y13
          exact ⟨y11, y12, y13⟩)
         go_wp2_with fail
         go_loopw [5, 6] (fun v i wr => v = .int .u32 0 ∧ i = .int .i64 0 ∧ w3 = wr) (fun _ _ _ => 0)
         case atStart => exact ⟨rfl, rfl, rfl⟩
         case round =>
          obtain ⟨rfl, rfl, rfl⟩ := hrel
          go_wp2_with fail
          go_loopw [5, 8] (fun v i wr => v = .int .u32 0 ∧ i = .int .i64 0 ∧ w3 = wr) (fun _ _ _ => 0)
          case atStart => exact ⟨rfl, rfl, rfl⟩
          case round =>
           obtain ⟨rfl, rfl, rfl⟩ := hrel
           go_wp2_with fail
           go_loopw [5, 9] (fun v i wr => v = .int .u32 0 ∧ i = .int .i64 0 ∧ w3 = wr) (fun _ _ _ => 0)
           case atStart => exact ⟨rfl, rfl, rfl⟩
           case round =>
            obtain ⟨rfl, rfl, rfl⟩ := hrel
            have hf1 := HF.out _ HB3.out
            rw [HZ.out.1, HZ.out.2.1, HZ.out.2.2] at hf1
            have HF1 := Lib.hid hf1
            clear hf1
            go_wp2_with fail
            with_reducible refine HF1.out.mono ?_
            unfold New
            rintro e w2 ⟨v2, rfl, ho2, hb2⟩
            obtain ⟨L, hL⟩ : ∃ L, L = fs.length := ⟨_, rfl⟩
            rw [← hL] at ho2 HIFF
            obtain ⟨A2, c2, rfl, _, _, _⟩ := ho2.reads
            have HB2 := Lib.hid (HB3.out.trans (hb2.mono HB3.out.size))
            have hLL : L ≤ 1000000000 := by rw [hL]; exact HLL.out
            have hWi : IntKind.i64.wrap ((L : Int) + 3) = (L : Int) + 3 := IntWalk.i64_in _ (by omega)
            clear ho2 hb2 hL hLL
            go_wp2_with fail
            go_ret
            refine ⟨_, rfl, ?_, HBW.out.trans (HB2.out.mono HBW.out.size)⟩
            rw [HIFF.out, HFT.out, decide_eq_true_eq]
            exact ⟨fun h => ⟨⟨HP.out, ⟨HU.out, HR.out, HS.out⟩, HT.out⟩, HOK.out, by omega⟩, fun h => by have := h.2.2; omega⟩
        ·have d8 : decide (r.o.s ≥ 60) = true := decide_eq_true (by omega)
         have d9 : decide (60 ≤ r.o.s) = true := decide_eq_true (by omega)
         have HS' := Lib.hid hs6
         clear hs0 hs6
         go_wp2_with fail
         go_ret
         refine ⟨false, rfl, ⟨fun h => absurd h (by decide), fun h => ?_⟩, HBW.out.trans (HB3.out.mono HBW.out.size)⟩
         have h9 := HFT.out.1 (HIFF.out.1 h).1
         have := h9.2.1.2.2.2
         have := HS'.out
         omega
     ·have k3 : (r.o.k == 3) = false := beq_false_of_ne hc3
      have k4 : (r.o.k == 4) = false := beq_false_of_ne hc4
      have HU' : Hid ((decide (r.o.k = 3) || decide (r.o.k = 4)) = false) := Lib.hid (by simp [hc3, hc4])
      clear hc3 hc4
      go_wp2_with fail
      go_ret
      refine ⟨false, rfl, ⟨fun h => absurd h (by decide), fun h => ?_⟩, HBW.out.trans (HB1.out.mono HBW.out.size)⟩
      have h9 := HFT.out.1 (HIFF.out.1 h).1
      have := HU'.out
      rw [this] at h9
      exact absurd h9.2.1.1 (by decide)
set_option maxHeartbeats 8000000 in
theorem dmay_3b (w : World) (r : RV) (h : r.In w All) (hc : Brief r) (hk : r.k = 3) (hrt : r.rt ≠ 0) : Calls Tryz.prog 14 #[r.agg] w (Tells w (bytesE r.e ≠ [])) := by
 obtain ⟨W, hW, hBW, hbx, hsz⟩ := box_rv w r
 obtain ⟨y0, y1, y2, y3, y4, y5, y6, y7, y8, y9, y10, y11, y12, y13, y14⟩ := rcs_cells hbx
 have hh := h.keep (Fr.of_below hBW No) fun _ _ hn => hn
 have HBW := Lib.hid hBW
 have HBX := Lib.hid hbx
 have HBA := Lib.hid (bare_any W r hh (by omega))
 have HF := Lib.hid (fun W' (hb : Below W.heap.size W W') => rfields_any W' r (hh.keep (Fr.of_below hb No) fun _ _ hn => hn) hc (by omega))
 have hol : r.o.d.length = r.o.m := h.o.b.len
 have hft : fitsE r.e = true ↔ r.pg ≠ 0 ∧ (((decide (r.o.k = 3) || decide (r.o.k = 4)) == decide ((3 : Int) = 3)) = true ∧ rightP 2 r.o.k r.o.s r.o.t r.o.m = true ∧ 0 ≤ r.o.s ∧ r.o.s < 60) ∧ r.t ≠ 0 := by
  have e1 : foE r.e = (((decide (r.o.k = 3) || decide (r.o.k = 4)) == decide ((3 : Int) = 3)) && (rightP 2 r.o.k r.o.s r.o.t r.o.m && (decide (0 ≤ r.o.s) && decide (r.o.s < 60)))) := by
   unfold foE RV.e OV.n
   simp only [hk, hol, hrt, if_false]
  unfold fitsE
  rw [if_pos (by unfold RV.e; simp only; omega), e1]
  unfold RV.e
  simp only [Bool.and_eq_true, decide_eq_true_eq]
 have HRG := Lib.hid (fun W' => rright_any 2 r.o W')
 have HIFF := Lib.hid (bytesE_iff r.e)
 have HFT := Lib.hid hft
 obtain ⟨fs, hfs⟩ : ∃ f, f = fieldsE r.e := ⟨_, rfl⟩
 have HLL : Hid (fs.length ≤ 1000000000) := Lib.hid (by rw [hfs]; exact fieldsE_le r h hc)
 rw [← hfs] at HF HIFF
 have HRW : Hid (okE r.e = true → r.im = 0 ∧ r.lm = 0 ∧ r.dm = 0) := Lib.hid (fun ho => by
  obtain ⟨h1, h2⟩ := okE_rows ho
  have h1 := h1 (show r.k ≠ 4 by omega)
  have h2 := h2 (show r.k ≠ 8 by omega)
  have h3 := h.i.1
  have h4 := h.l.1
  have h5 := h.d.1
  have e1 : r.il = [] := by unfold RV.e at h1; exact List.map_eq_nil_iff.1 h1
  have e2 : r.ll = [] := h2.1
  have e3 : r.dl = [] := h2.2
  rw [e1] at h3; rw [e2] at h4; rw [e3] at h5
  exact ⟨h3.symm, h4.symm, h5.symm⟩)
 have p1 : decide (r.k < 1) = false := decide_eq_false (by omega)
 have p8 : decide (r.k > 8) = false := decide_eq_false (by omega)
 have q8 : decide (8 < r.k) = false := decide_eq_false (by omega)
 have c4 : (r.k == 4) = false := beq_false_of_ne (by omega)
 have n4 : (r.k != 4) = true := bne_iff_ne.2 (by omega)
 have n8 : (r.k != 8) = true := bne_iff_ne.2 (by omega)
 have c3 : (r.k == 3) = true := by rw [hk]; rfl
 have c2 : (r.k == 2) = false := beq_false_of_ne (by omega)
 have d_rt : ((r.rt : Int) != 0) = true := bne_iff_ne.2 (by omega)
 have HOI := Lib.hid h.o
 obtain ⟨ok, hok⟩ : ∃ ok, ok = okE r.e := ⟨_, rfl⟩
 obtain ⟨ft, hft⟩ : ∃ ft, ft = fitsE r.e := ⟨_, rfl⟩
 obtain ⟨bb, hbb⟩ : ∃ bb, bb = bytesE r.e := ⟨_, rfl⟩
 rw [← hok] at HBA HRW HIFF
 rw [← hft] at HFT HIFF
 rw [← hbb] at HIFF ⊢
 simp only [rcs] at hW
 unfold OV.agg at HRG
 unfold RV.agg at HBA HF ⊢
 clear hrt hol h hh hc hk hBW hbx hsz hfs hok hbb hft
 go_enter Tryz.func14, Tryz.ntmps14
 go_wp2_with fail
 with_reducible refine HBA.out.mono ?_
 unfold Tells
 rintro e w1 ⟨b1, rfl, hiff, hb1⟩
 have HI := Lib.hid hiff
 have HB1 := Lib.hid hb1
 obtain ⟨y0, y1, y2, y3, y4, y5, y6, y7, y8, y9, y10, y11, y12, y13, y14⟩ := rcs_cells (HBX.out.below hb1 HBX.out.lt)
 clear hiff hb1
 cases b1
 ·go_wp2_with fail
  go_ret
  refine ⟨false, rfl, ⟨fun h => absurd h (by decide), fun h => ?_⟩, HBW.out.trans (HB1.out.mono HBW.out.size)⟩
  have := HI.out.2 (HIFF.out.1 h).2.1
  exact absurd this (by decide)
 ·have HOK := Lib.hid (HI.out.1 rfl)
  have HZ := Lib.hid (HRW.out HOK.out)
  by_cases ht : r.t = 0
  ·have d0 : ((r.t : Int) == 0) = true := by rw [beq_iff_eq]; omega
   have HT := Lib.hid ht
   clear ht
   go_wp2_with fail
   go_ret
   refine ⟨false, rfl, ⟨fun h => absurd h (by decide), fun h => ?_⟩, HBW.out.trans (HB1.out.mono HBW.out.size)⟩
   have h9 := HFT.out.1 (HIFF.out.1 h).1
   exact absurd HT.out h9.2.2
  ·have d0 : ((r.t : Int) == 0) = false := beq_false_of_ne (by omega)
   have HT := Lib.hid ht
   clear ht
   by_cases hp : r.pg = 0
   ·have d1 : ((r.pg : Int) == 0) = true := by rw [beq_iff_eq]; omega
    have HP := Lib.hid hp
    clear hp
    by_cases hc3 : r.o.k = 3
    ·have k3 : (r.o.k == 3) = true := by rw [hc3]; rfl
     clear hc3
     go_wp2_with fail
     go_ret
     refine ⟨false, rfl, ⟨fun h => absurd h (by decide), fun h => ?_⟩, HBW.out.trans (HB1.out.mono HBW.out.size)⟩
     have h9 := HFT.out.1 (HIFF.out.1 h).1
     exact absurd HP.out h9.1
    ·have k3 : (r.o.k == 3) = false := beq_false_of_ne hc3
     clear hc3
     go_wp2_with fail
     go_ret
     refine ⟨false, rfl, ⟨fun h => absurd h (by decide), fun h => ?_⟩, HBW.out.trans (HB1.out.mono HBW.out.size)⟩
     have h9 := HFT.out.1 (HIFF.out.1 h).1
     exact absurd HP.out h9.1
   ·have d1 : ((r.pg : Int) == 0) = false := beq_false_of_ne (by omega)
    have HP := Lib.hid hp
    clear hp
    by_cases hc3 : r.o.k = 3
    ·have k3 : (r.o.k == 3) = true := by rw [hc3]; rfl
     have k4 : (r.o.k == 4) = false := by rw [hc3]; rfl
     have HU' : Hid ((decide (r.o.k = 3) || decide (r.o.k = 4)) = true) := Lib.hid (by simp [hc3])
     have HU : Hid (((decide (r.o.k = 3) || decide (r.o.k = 4)) == decide ((3 : Int) = 3)) = true) := Lib.hid (by rw [HU'.out]; rfl)
     clear hc3
     have HG := Lib.hid (HRG.out w1)
     go_wp2_with fail
     with_reducible refine HG.out.mono ?_
     rintro e w3 ⟨rfl, hb3⟩
     have HB3 := Lib.hid (HB1.out.trans (hb3.mono HB1.out.size))
     obtain ⟨y0, y1, y2, y3, y4, y5, y6, y7, y8, y9, y10, y11, y12, y13, y14⟩ := rcs_cells (HBX.out.below HB3.out HBX.out.lt)
     rw [HZ.out.1] at y11
     rw [HZ.out.2.1] at y12
     rw [HZ.out.2.2] at y13
     obtain ⟨rg, hrg⟩ : ∃ b, b = rightP 2 r.o.k r.o.s r.o.t r.o.m := ⟨_, rfl⟩
     rw [← hrg]
     have HR' := Lib.hid hrg
     clear hb3 hrg
     cases rg
     ·go_wp2_with fail
      go_ret
      refine ⟨false, rfl, ⟨fun h => absurd h (by decide), fun h => ?_⟩, HBW.out.trans (HB3.out.mono HBW.out.size)⟩
      have h9 := HFT.out.1 (HIFF.out.1 h).1
      exact absurd (HR'.out.trans h9.2.1.2.1) (by decide)
     ·by_cases hs0 : r.o.s < 0
      ·have d7 : decide (r.o.s < 0) = true := decide_eq_true hs0
       have HS' := Lib.hid hs0
       clear hs0
       go_wp2_with fail
       go_ret
       refine ⟨false, rfl, ⟨fun h => absurd h (by decide), fun h => ?_⟩, HBW.out.trans (HB3.out.mono HBW.out.size)⟩
       have h9 := HFT.out.1 (HIFF.out.1 h).1
       have := h9.2.1.2.2.1
       have := HS'.out
       omega
      ·have d7 : decide (r.o.s < 0) = false := decide_eq_false hs0
       by_cases hs6 : r.o.s < 60
       ·have d8 : decide (r.o.s ≥ 60) = false := decide_eq_false (by omega)
        have d9 : decide (60 ≤ r.o.s) = false := decide_eq_false (by omega)
        have HS := Lib.hid (show 0 ≤ r.o.s ∧ r.o.s < 60 from ⟨by omega, hs6⟩)
        have HR := Lib.hid HR'.out.symm
        clear hs0 hs6
        have HCS : Hid (∀ wr, Below W.heap.size W wr → wr.cell? ⟨w.heap.size, 11, none⟩ = some (.slice r.iA 0 r.ic) ∧ wr.cell? ⟨w.heap.size, 12, none⟩ = some (.slice r.lA 0 r.lc) ∧ wr.cell? ⟨w.heap.size, 13, none⟩ = some (.slice r.dA 0 r.dc)) := Lib.hid (fun wr hb => by
         obtain ⟨y0, y1, y2, y3, y4, y5, y6, y7, y8, y9, y10, y11, y12, y13, y14⟩ := rcs_cells (HBX.out.below hb HBX.out.lt)
         rw [HZ.out.1] at y11
         rw [HZ.out.2.1] at y12
         rw [HZ.out.2.2] at y13
         exact ⟨y11, y12, y13⟩)
        go_wp2_with fail
        go_loopw [5, 6] (fun v i wr => v = .int .u32 0 ∧ i = .int .i64 0 ∧ w3 = wr) (fun _ _ _ => 0)
        case atStart => exact ⟨rfl, rfl, rfl⟩
        case round =>
         obtain ⟨rfl, rfl, rfl⟩ := hrel
         go_wp2_with fail
         go_loopw [5, 8] (fun v i wr => v = .int .u32 0 ∧ i = .int .i64 0 ∧ w3 = wr) (fun _ _ _ => 0)
         case atStart => exact ⟨rfl, rfl, rfl⟩
         case round =>
          obtain ⟨rfl, rfl, rfl⟩ := hrel
          go_wp2_with fail
          go_loopw [5, 9] (fun v i wr => v = .int .u32 0 ∧ i = .int .i64 0 ∧ w3 = wr) (fun _ _ _ => 0)
          case atStart => exact ⟨rfl, rfl, rfl⟩
          case round =>
           obtain ⟨rfl, rfl, rfl⟩ := hrel
           have hf1 := HF.out _ HB3.out
           rw [HZ.out.1, HZ.out.2.1, HZ.out.2.2] at hf1
           have HF1 := Lib.hid hf1
           clear hf1
           go_wp2_with fail
           with_reducible refine HF1.out.mono ?_
           unfold New
           rintro e w2 ⟨v2, rfl, ho2, hb2⟩
           obtain ⟨L, hL⟩ : ∃ L, L = fs.length := ⟨_, rfl⟩
           rw [← hL] at ho2 HIFF
           obtain ⟨A2, c2, rfl, _, _, _⟩ := ho2.reads
           have HB2 := Lib.hid (HB3.out.trans (hb2.mono HB3.out.size))
           have hLL : L ≤ 1000000000 := by rw [hL]; exact HLL.out
           have hWi : IntKind.i64.wrap ((L : Int) + 3) = (L : Int) + 3 := IntWalk.i64_in _ (by omega)
           clear ho2 hb2 hL hLL
           go_wp2_with fail
           go_ret
           refine ⟨_, rfl, ?_, HBW.out.trans (HB2.out.mono HBW.out.size)⟩
           rw [HIFF.out, HFT.out, decide_eq_true_eq]
           exact ⟨fun h => ⟨⟨HP.out, ⟨HU.out, HR.out, HS.out⟩, HT.out⟩, HOK.out, by omega⟩, fun h => by have := h.2.2; omega⟩
       ·have d8 : decide (r.o.s ≥ 60) = true := decide_eq_true (by omega)
        have d9 : decide (60 ≤ r.o.s) = true := decide_eq_true (by omega)
        have HS' := Lib.hid hs6
        clear hs0 hs6
        go_wp2_with fail
        go_ret
        refine ⟨false, rfl, ⟨fun h => absurd h (by decide), fun h => ?_⟩, HBW.out.trans (HB3.out.mono HBW.out.size)⟩
        have h9 := HFT.out.1 (HIFF.out.1 h).1
        have := h9.2.1.2.2.2
        have := HS'.out
        omega
    ·by_cases hc4 : r.o.k = 4
     ·have k3 : (r.o.k == 3) = false := by rw [hc4]; rfl
      have k4 : (r.o.k == 4) = true := by rw [hc4]; rfl
      have HU' : Hid ((decide (r.o.k = 3) || decide (r.o.k = 4)) = true) := Lib.hid (by simp [hc4])
      have HU : Hid (((decide (r.o.k = 3) || decide (r.o.k = 4)) == decide ((3 : Int) = 3)) = true) := Lib.hid (by rw [HU'.out]; rfl)
      clear hc4 hc3
      have HG := Lib.hid (HRG.out w1)
      go_wp2_with fail
      with_reducible refine HG.out.mono ?_
      rintro e w3 ⟨rfl, hb3⟩
      have HB3 := Lib.hid (HB1.out.trans (hb3.mono HB1.out.size))
      obtain ⟨y0, y1, y2, y3, y4, y5, y6, y7, y8, y9, y10, y11, y12, y13, y14⟩ := rcs_cells (HBX.out.below HB3.out HBX.out.lt)
      rw [HZ.out.1] at y11
      rw [HZ.out.2.1] at y12
      rw [HZ.out.2.2] at y13
      obtain ⟨rg, hrg⟩ : ∃ b, b = rightP 2 r.o.k r.o.s r.o.t r.o.m := ⟨_, rfl⟩
      rw [← hrg]
      have HR' := Lib.hid hrg
      clear hb3 hrg
      cases rg
      ·go_wp2_with fail
       go_ret
       refine ⟨false, rfl, ⟨fun h => absurd h (by decide), fun h => ?_⟩, HBW.out.trans (HB3.out.mono HBW.out.size)⟩
       have h9 := HFT.out.1 (HIFF.out.1 h).1
       exact absurd (HR'.out.trans h9.2.1.2.1) (by decide)
      ·by_cases hs0 : r.o.s < 0
       ·have d7 : decide (r.o.s < 0) = true := decide_eq_true hs0
        have HS' := Lib.hid hs0
        clear hs0
        go_wp2_with fail
        go_ret
        refine ⟨false, rfl, ⟨fun h => absurd h (by decide), fun h => ?_⟩, HBW.out.trans (HB3.out.mono HBW.out.size)⟩
        have h9 := HFT.out.1 (HIFF.out.1 h).1
        have := h9.2.1.2.2.1
        have := HS'.out
        omega
       ·have d7 : decide (r.o.s < 0) = false := decide_eq_false hs0
        by_cases hs6 : r.o.s < 60
        ·have d8 : decide (r.o.s ≥ 60) = false := decide_eq_false (by omega)
         have d9 : decide (60 ≤ r.o.s) = false := decide_eq_false (by omega)
         have HS := Lib.hid (show 0 ≤ r.o.s ∧ r.o.s < 60 from ⟨by omega, hs6⟩)
         have HR := Lib.hid HR'.out.symm
         clear hs0 hs6
         have HCS : Hid (∀ wr, Below W.heap.size W wr → wr.cell? ⟨w.heap.size, 11, none⟩ = some (.slice r.iA 0 r.ic) ∧ wr.cell? ⟨w.heap.size, 12, none⟩ = some (.slice r.lA 0 r.lc) ∧ wr.cell? ⟨w.heap.size, 13, none⟩ = some (.slice r.dA 0 r.dc)) := Lib.hid (fun wr hb => by
          obtain ⟨y0, y1, y2, y3, y4, y5, y6, y7, y8, y9, y10, y11, y12, y13, y14⟩ := rcs_cells (HBX.out.below hb HBX.out.lt)
          rw [HZ.out.1] at y11
          rw [HZ.out.2.1] at y12
          rw [HZ.out.2.2] at y13
          exact ⟨y11, y12, y13⟩)
         go_wp2_with fail
         go_loopw [5, 6] (fun v i wr => v = .int .u32 0 ∧ i = .int .i64 0 ∧ w3 = wr) (fun _ _ _ => 0)
         case atStart => exact ⟨rfl, rfl, rfl⟩
         case round =>
          obtain ⟨rfl, rfl, rfl⟩ := hrel
          go_wp2_with fail
          go_loopw [5, 8] (fun v i wr => v = .int .u32 0 ∧ i = .int .i64 0 ∧ w3 = wr) (fun _ _ _ => 0)
          case atStart => exact ⟨rfl, rfl, rfl⟩
          case round =>
           obtain ⟨rfl, rfl, rfl⟩ := hrel
           go_wp2_with fail
           go_loopw [5, 9] (fun v i wr => v = .int .u32 0 ∧ i = .int .i64 0 ∧ w3 = wr) (fun _ _ _ => 0)
           case atStart => exact ⟨rfl, rfl, rfl⟩
           case round =>
            obtain ⟨rfl, rfl, rfl⟩ := hrel
            have hf1 := HF.out _ HB3.out
            rw [HZ.out.1, HZ.out.2.1, HZ.out.2.2] at hf1
            have HF1 := Lib.hid hf1
            clear hf1
            go_wp2_with fail
            with_reducible refine HF1.out.mono ?_
            unfold New
            rintro e w2 ⟨v2, rfl, ho2, hb2⟩
            obtain ⟨L, hL⟩ : ∃ L, L = fs.length := ⟨_, rfl⟩
            rw [← hL] at ho2 HIFF
            obtain ⟨A2, c2, rfl, _, _, _⟩ := ho2.reads
            have HB2 := Lib.hid (HB3.out.trans (hb2.mono HB3.out.size))
            have hLL : L ≤ 1000000000 := by rw [hL]; exact HLL.out
            have hWi : IntKind.i64.wrap ((L : Int) + 3) = (L : Int) + 3 := IntWalk.i64_in _ (by omega)
            clear ho2 hb2 hL hLL
            go_wp2_with fail
            go_ret
            refine ⟨_, rfl, ?_, HBW.out.trans (HB2.out.mono HBW.out.size)⟩
            rw [HIFF.out, HFT.out, decide_eq_true_eq]
            exact ⟨fun h => ⟨⟨HP.out, ⟨HU.out, HR.out, HS.out⟩, HT.out⟩, HOK.out, by omega⟩, fun h => by have := h.2.2; omega⟩
        ·have d8 : decide (r.o.s ≥ 60) = true := decide_eq_true (by omega)
         have d9 : decide (60 ≤ r.o.s) = true := decide_eq_true (by omega)
         have HS' := Lib.hid hs6
         clear hs0 hs6
         go_wp2_with fail
         go_ret
         refine ⟨false, rfl, ⟨fun h => absurd h (by decide), fun h => ?_⟩, HBW.out.trans (HB3.out.mono HBW.out.size)⟩
         have h9 := HFT.out.1 (HIFF.out.1 h).1
         have := h9.2.1.2.2.2
         have := HS'.out
         omega
     ·have k3 : (r.o.k == 3) = false := beq_false_of_ne hc3
      have k4 : (r.o.k == 4) = false := beq_false_of_ne hc4
      have HU' : Hid ((decide (r.o.k = 3) || decide (r.o.k = 4)) = false) := Lib.hid (by simp [hc3, hc4])
      clear hc3 hc4
      go_wp2_with fail
      go_ret
      refine ⟨false, rfl, ⟨fun h => absurd h (by decide), fun h => ?_⟩, HBW.out.trans (HB1.out.mono HBW.out.size)⟩
      have h9 := HFT.out.1 (HIFF.out.1 h).1
      have := HU'.out
      rw [this] at h9
      exact absurd h9.2.1.1 (by decide)
end Go.Proofs.YtdhgbkibbileiaaGreat
