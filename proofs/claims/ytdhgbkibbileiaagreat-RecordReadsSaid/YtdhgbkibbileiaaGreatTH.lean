/-
TH TJ
-/
import Derived.Test.YtdhgbkibbileiaaGreatTG
set_option maxRecDepth 100000
namespace Go.Proofs.YtdhgbkibbileiaaGreat
open Go.RowKit
set_option maxHeartbeats 8000000 in
theorem dmay_8 (w : World) (r : RV) (h : r.In w All) (hc : Brief r) (hk : r.k = 8) : Calls Tryz.prog 14 #[r.agg] w (Tells w (bytesE r.e ≠ [])) := by
 obtain ⟨W, hW, hBW, hbx, hsz⟩ := box_rv w r
 obtain ⟨y0, y1, y2, y3, y4, y5, y6, y7, y8, y9, y10, y11, y12, y13, y14⟩ := rcs_cells hbx
 have hh := h.keep (Fr.of_below hBW No) fun _ _ hn => hn
 have HBW := Lib.hid hBW
 have HBX := Lib.hid hbx
 have HBA := Lib.hid (bare_any W r hh (by omega))
 have HF := Lib.hid (fun W' (hb : Below W.heap.size W W') => rfields_any W' r (hh.keep (Fr.of_below hb No) fun _ _ hn => hn) hc (by omega))
 have hft : fitsE r.e = true ↔ rising 0 (r.ll.map LV.t) = true ∧ rising 0 (r.dl.map DV.t) = true := by
  unfold fitsE RV.e
  rw [if_neg (by simp only; omega), if_neg (by simp only; omega), if_neg (by simp only; omega), if_pos (by simp only; omega), Bool.and_eq_true]
 have HLV := Lib.hid hh.l
 have HDV := Lib.hid hh.d
 have HIFF := Lib.hid (bytesE_iff r.e)
 have HFT := Lib.hid hft
 obtain ⟨fs, hfs⟩ : ∃ f, f = fieldsE r.e := ⟨_, rfl⟩
 have HLL : Hid (fs.length ≤ 1000000000) := Lib.hid (by rw [hfs]; exact fieldsE_le r h hc)
 rw [← hfs] at HF HIFF
 have HRW : Hid (okE r.e = true → r.im = 0) := Lib.hid (fun ho => by
  have h1 := (okE_rows ho).1 (show r.k ≠ 4 by omega)
  have h3 := h.i.1
  have e1 : r.il = [] := by unfold RV.e at h1; exact List.map_eq_nil_iff.1 h1
  rw [e1] at h3
  exact h3.symm)
 have hn2 : r.lm ≤ 20001 := hc.l
 have hm2 : r.dm ≤ 20001 := hc.d
 have p1 : decide (r.k < 1) = false := decide_eq_false (by omega)
 have p8 : decide (r.k > 8) = false := decide_eq_false (by omega)
 have q8 : decide (8 < r.k) = false := decide_eq_false (by omega)
 have c4 : (r.k == 4) = false := beq_false_of_ne (by omega)
 have n4 : (r.k != 4) = true := bne_iff_ne.2 (by omega)
 have n8 : (r.k != 8) = false := by rw [hk]; rfl
 have c3 : (r.k == 3) = false := beq_false_of_ne (by omega)
 have c2 : (r.k == 2) = false := beq_false_of_ne (by omega)
 obtain ⟨ok, hok⟩ : ∃ ok, ok = okE r.e := ⟨_, rfl⟩
 obtain ⟨ft, hft⟩ : ∃ ft, ft = fitsE r.e := ⟨_, rfl⟩
 obtain ⟨bb, hbb⟩ : ∃ bb, bb = bytesE r.e := ⟨_, rfl⟩
 rw [← hok] at HBA HRW HIFF
 rw [← hft] at HFT HIFF
 rw [← hbb] at HIFF ⊢
 simp only [rcs] at hW
 unfold RV.agg at HBA HF ⊢
 clear h hh hc hk hBW hbx hsz hfs hok hbb hft
 go_enter Tryz.func14, Tryz.ntmps14
 go_wp2_with fail
 with_reducible refine HBA.out.mono ?_
 unfold Tells
 rintro e w1 ⟨b1, rfl, hiff, hb1⟩
 have HI := Lib.hid hiff
 have HB1 := Lib.hid hb1
 obtain ⟨y0, y1, y2, y3, y4, y5, y6, y7, y8, y9, y10, y11, y12, y13, y14⟩ := rcs_cells (HBX.out.below hb1 HBX.out.lt)
 clear hiff hb1
 cases b1
 ·go_wp2_with fail
  go_ret
  refine ⟨false, rfl, ⟨fun h => absurd h (by decide), fun h => ?_⟩, HBW.out.trans (HB1.out.mono HBW.out.size)⟩
  have := HI.out.2 (HIFF.out.1 h).2.1
  exact absurd this (by decide)
 ·have HOK := Lib.hid (HI.out.1 rfl)
  have HZ := Lib.hid (HRW.out HOK.out)
  rw [HZ.out] at y11
  go_wp2_with fail
  go_loopw [5, 6] (fun v i wr => v = .int .u32 0 ∧ i = .int .i64 0 ∧ w1 = wr) (fun _ _ _ => 0)
  case atStart => exact ⟨rfl, rfl, rfl⟩
  case round =>
   obtain ⟨rfl, rfl, rfl⟩ := hrel
   go_wp2_with fail
   go_loopw [5, 8] (fun v i wr => ∃ q last : Nat, q ≤ r.lm ∧ v = .int .u32 (last : Int) ∧ i = .int .i64 (q : Int) ∧ rising 0 (r.ll.map LV.t) = rising last ((r.ll.map LV.t).drop q) ∧ w1 = wr) (fun _ i _ => r.lm - (intOf i).toNat)
   case atStart => exact ⟨0, 0, by omega, rfl, rfl, by rw [List.drop_zero], rfl⟩
   case round =>
    obtain ⟨q, last, hq, rfl, rfl, hrs, rfl⟩ := hrel
    have HRS12 := Lib.hid hrs
    clear hrs
    by_cases hlt : q < r.lm
    ·have hin : ((q : Int) < (r.lm : Int)) := by omega
     have d1 : decide ((q : Int) < (r.lm : Int)) = true := decide_eq_true hin
     have hWi : IntKind.i64.wrap ((q : Int) + 1) = ((q + 1 : Nat) : Int) := by rw [IntWalk.i64_in _ (by omega)]; omega
     have hwq : IntKind.i64.wrap (q : Int) = (q : Int) := IntWalk.i64_in _ (by omega)
     obtain ⟨gx, o, x, hA, _, _, hx, hxi, bs⟩ := (HLV.out.keep (Fr.of_below HB1.out No) fun _ _ hn => hn).at_ hlt
     have b0 := bs.1
     rw [hA] at y12
     have HST := Lib.hid (rising_step (l := r.ll.map LV.t) (q := q) (last := last) (x := x.t) (by rw [List.getElem?_map, hx]; rfl))
     clear hA hx hxi bs
     by_cases hle : x.t ≤ last
     ·have hle1 : ((x.t : Int) ≤ (last : Int)) := by omega
      have d5 : decide ((x.t : Int) ≤ (last : Int)) = true := decide_eq_true hle1
      have HLE := Lib.hid hle
      clear hle
      go_wp2_with fail
      go_ret
      refine ⟨false, rfl, ⟨fun h => absurd h (by decide), fun h => ?_⟩, HBW.out.trans (HB1.out.mono HBW.out.size)⟩
      have h9 := (HFT.out.1 (HIFF.out.1 h).1).1
      rw [HRS12.out, HST.out, if_pos HLE.out] at h9
      exact absurd h9 (by decide)
     ·have hle1 : ¬ ((x.t : Int) ≤ (last : Int)) := by omega
      have d5 : decide ((x.t : Int) ≤ (last : Int)) = false := decide_eq_false hle1
      have HLE := Lib.hid hle
      clear hle
      go_wp2_with fail
      go_roundw
      case rel => exact ⟨q + 1, x.t, by omega, rfl, by go_num, by rw [HRS12.out, HST.out, if_neg HLE.out], by first | rfl | trivial⟩
      case measure => simp [intOf]; omega
    ·have d1 : decide ((q : Int) < (r.lm : Int)) = false := decide_eq_false (by omega)
     have d2 : decide (q < r.lm) = false := decide_eq_false hlt
     have HG12 : Hid (rising 0 (r.ll.map LV.t) = true) := Lib.hid (by rw [HRS12.out, rising_end (by rw [List.length_map, HLV.out.1]; omega)])
     clear hq hlt
     go_wp2_with fail
     go_loopw [5, 9] (fun v i wr => ∃ q last : Nat, q ≤ r.dm ∧ v = .int .u32 (last : Int) ∧ i = .int .i64 (q : Int) ∧ rising 0 (r.dl.map DV.t) = rising last ((r.dl.map DV.t).drop q) ∧ w1 = wr) (fun _ i _ => r.dm - (intOf i).toNat)
     case atStart => exact ⟨0, 0, by omega, rfl, rfl, by rw [List.drop_zero], rfl⟩
     case round =>
      obtain ⟨q, last, hq, rfl, rfl, hrs, rfl⟩ := hrel
      have HRS13 := Lib.hid hrs
      clear hrs
      by_cases hlt : q < r.dm
      ·have hin : ((q : Int) < (r.dm : Int)) := by omega
       have d1 : decide ((q : Int) < (r.dm : Int)) = true := decide_eq_true hin
       have hWi : IntKind.i64.wrap ((q : Int) + 1) = ((q + 1 : Nat) : Int) := by rw [IntWalk.i64_in _ (by omega)]; omega
       have hwq : IntKind.i64.wrap (q : Int) = (q : Int) := IntWalk.i64_in _ (by omega)
       obtain ⟨gx, o, x, hA, _, _, hx, hxi, bs⟩ := (HDV.out.keep (Fr.of_below HB1.out No) fun _ _ hn => hn).at_ hlt
       have b0 := bs.1
       rw [hA] at y13
       have HST := Lib.hid (rising_step (l := r.dl.map DV.t) (q := q) (last := last) (x := x.t) (by rw [List.getElem?_map, hx]; rfl))
       clear hA hx hxi bs
       by_cases hle : x.t ≤ last
       ·have hle1 : ((x.t : Int) ≤ (last : Int)) := by omega
        have d5 : decide ((x.t : Int) ≤ (last : Int)) = true := decide_eq_true hle1
        have HLE := Lib.hid hle
        clear hle
        go_wp2_with fail
        go_ret
        refine ⟨false, rfl, ⟨fun h => absurd h (by decide), fun h => ?_⟩, HBW.out.trans (HB1.out.mono HBW.out.size)⟩
        have h9 := (HFT.out.1 (HIFF.out.1 h).1).2
        rw [HRS13.out, HST.out, if_pos HLE.out] at h9
        exact absurd h9 (by decide)
       ·have hle1 : ¬ ((x.t : Int) ≤ (last : Int)) := by omega
        have d5 : decide ((x.t : Int) ≤ (last : Int)) = false := decide_eq_false hle1
        have HLE := Lib.hid hle
        clear hle
        go_wp2_with fail
        go_roundw
        case rel => exact ⟨q + 1, x.t, by omega, rfl, by go_num, by rw [HRS13.out, HST.out, if_neg HLE.out], by first | rfl | trivial⟩
        case measure => simp [intOf]; omega
      ·have d1 : decide ((q : Int) < (r.dm : Int)) = false := decide_eq_false (by omega)
       have d2 : decide (q < r.dm) = false := decide_eq_false hlt
       have HG13 : Hid (rising 0 (r.dl.map DV.t) = true) := Lib.hid (by rw [HRS13.out, rising_end (by rw [List.length_map, HDV.out.1]; omega)])
       clear hq hlt
       go_wp2_with fail
       have hf1 := HF.out _ HB1.out
       rw [HZ.out] at hf1
       have HF1 := Lib.hid hf1
       clear hf1
       go_wp2_with fail
       with_reducible refine HF1.out.mono ?_
       unfold New
       rintro e w2 ⟨v2, rfl, ho2, hb2⟩
       obtain ⟨L, hL⟩ : ∃ L, L = fs.length := ⟨_, rfl⟩
       rw [← hL] at ho2 HIFF
       obtain ⟨A2, c2, rfl, _, _, _⟩ := ho2.reads
       have HB2 := Lib.hid (HB1.out.trans (hb2.mono HB1.out.size))
       have hLL : L ≤ 1000000000 := by rw [hL]; exact HLL.out
       have hWi : IntKind.i64.wrap ((L : Int) + 3) = (L : Int) + 3 := IntWalk.i64_in _ (by omega)
       clear ho2 hb2 hL hLL
       go_wp2_with fail
       go_ret
       refine ⟨_, rfl, ?_, HBW.out.trans (HB2.out.mono HBW.out.size)⟩
       rw [HIFF.out, HFT.out, decide_eq_true_eq]
       exact ⟨fun h => ⟨⟨HG12.out, HG13.out⟩, HOK.out, by omega⟩, fun h => by have := h.2.2; omega⟩
end Go.Proofs.YtdhgbkibbileiaaGreat
set_option maxRecDepth 100000
namespace Go.Proofs.YtdhgbkibbileiaaGreat
open Go.RowKit
theorem dmay_lo (w : World) (r : RV) (hk : r.k < 1) : Calls Tryz.prog 14 #[r.agg] w (Tells w (bytesE r.e ≠ [])) := by
 obtain ⟨W, hW, hBW, hbx, hsz⟩ := box_rv w r
 obtain ⟨y0, y1, y2, y3, y4, y5, y6, y7, y8, y9, y10, y11, y12, y13, y14⟩ := rcs_cells hbx
 have HBW := Lib.hid hBW
 have HNO : Hid (¬ (bytesE r.e ≠ [])) := Lib.hid (fun hb => by
  have h1 := bytesE_kinds hb
  have h2 : r.e.k = r.k := rfl
  omega)
 have p1 : decide (r.k < 1) = true := decide_eq_true hk
 have p8 : decide (r.k > 8) = false := decide_eq_false (by omega)
 simp only [rcs] at hW
 unfold RV.agg
 clear hk hBW hbx hsz
 go_enter Tryz.func14, Tryz.ntmps14
 go_wp2_with fail
 go_ret
 exact ⟨false, rfl, ⟨fun h => absurd h (by decide), fun h => absurd h HNO.out⟩, HBW.out⟩
theorem dmay_hi (w : World) (r : RV) (hk : 8 < r.k) : Calls Tryz.prog 14 #[r.agg] w (Tells w (bytesE r.e ≠ [])) := by
 obtain ⟨W, hW, hBW, hbx, hsz⟩ := box_rv w r
 obtain ⟨y0, y1, y2, y3, y4, y5, y6, y7, y8, y9, y10, y11, y12, y13, y14⟩ := rcs_cells hbx
 have HBW := Lib.hid hBW
 have HNO : Hid (¬ (bytesE r.e ≠ [])) := Lib.hid (fun hb => by
  have h1 := bytesE_kinds hb
  have h2 : r.e.k = r.k := rfl
  omega)
 have p1 : decide (r.k < 1) = false := decide_eq_false (by omega)
 have p8 : decide (r.k > 8) = true := decide_eq_true hk
 have q8 : decide (8 < r.k) = true := decide_eq_true hk
 simp only [rcs] at hW
 unfold RV.agg
 clear hk hBW hbx hsz
 go_enter Tryz.func14, Tryz.ntmps14
 go_wp2_with fail
 go_ret
 exact ⟨false, rfl, ⟨fun h => absurd h (by decide), fun h => absurd h HNO.out⟩, HBW.out⟩
end Go.Proofs.YtdhgbkibbileiaaGreat
