/-
  WHETHER A RECORD FITS: fits.
-/
import Derived.Test.YtdhgbkibbileiaaGreatRG
namespace Go.Proofs.YtdhgbkibbileiaaGreat
open Go.RowKit

/-- does a record fit? -/
def fitsB (r : RV) : Bool :=
  if r.k = 2 ∨ r.k = 3 then decide (r.pg ≠ 0) && (fo r && decide (r.t ≠ 0))
  else if r.k = 1 ∨ r.k = 5 ∨ r.k = 6 ∨ r.k = 7 then decide (r.t ≠ 0)
  else if r.k = 4 then decide (0 < r.im) && (rising 0 (r.il.map IV.t) && freshB r.il)
  else if r.k = 8 then rising 0 (r.ll.map LV.t) && rising 0 (r.dl.map DV.t)
  else false
set_option maxHeartbeats 8000000 in
set_option maxRecDepth 100000 in
theorem fits_any (w : World) (r : RV) (h : r.In w All) (hi : r.im ≤ 20001) (hl : r.lm ≤ 20001) (hd : r.dm ≤ 20001) (hf : ∀ x ∈ r.il, Few x.p) : Calls Tryz.prog 38 #[r.agg] w fun e w' => e = .returned (.bool (fitsB r)) ∧ Below w.heap.size w w' := by
  obtain ⟨W, hW, hBW, hbx, hsz⟩ := box_rv w r
  obtain ⟨y0, y1, y2, y3, y4, y5, y6, y7, y8, y9, y10, y11, y12, y13, y14⟩ := rcs_cells hbx
  have HBW := Lib.hid hBW
  have HBX := Lib.hid hbx
  have HI := Lib.hid (h.keep (Fr.of_below hBW No) fun _ _ hn => hn)
  have HFO := Lib.hid (fun W' => fitsOp_any W' r)
  have HRI := Lib.hid (fun W' (hW' : Below W.heap.size W W') => riseIV_any W' All r.iA r.im r.ic r.il (HI.out.i.keep (Fr.of_below hW' No) fun _ _ hn => hn) hi)
  have HFR := Lib.hid (fun W' (hW' : Below W.heap.size W W') => areFresh_any W' r.iA r.im r.ic r.il (HI.out.i.keep (Fr.of_below hW' No) fun _ _ hn => hn) hi hf)
  have HRL := Lib.hid (fun W' (hW' : Below W.heap.size W W') => riseLV_any W' All r.lA r.lm r.lc r.ll (HI.out.l.keep (Fr.of_below hW' No) fun _ _ hn => hn) hl)
  have HRD := Lib.hid (fun W' (hW' : Below W.heap.size W W') => riseDV_any W' All r.dA r.dm r.dc r.dl (HI.out.d.keep (Fr.of_below hW' No) fun _ _ hn => hn) hd)
  obtain ⟨F, hF⟩ : ∃ F, F = fitsB r := ⟨_, rfl⟩
  rw [← hF]
  have HF := Lib.hid hF
  simp only [rcs] at hW
  unfold RV.agg at HFO ⊢
  have et0 := fun (h : r.t = 0) => (show ((r.t : Int) != 0) = false from bne_eq_false_iff_eq.2 (by omega))
  have et1 := fun (h : ¬ r.t = 0) => (show ((r.t : Int) != 0) = true from bne_iff_ne.2 (by omega))
  have ET0 := Lib.hid et0
  have ET1 := Lib.hid et1
  clear h hi hl hd hf hBW hbx hsz hF et0 et1
  by_cases k1 : r.k = 1
  · have ek : (r.k == 1) = true := by rw [beq_iff_eq]; exact k1
    have n2 : ¬ r.k = 2 := by omega
    have e2 : (r.k == 2) = false := beq_false_of_ne n2
    have n3 : ¬ r.k = 3 := by omega
    have e3 : (r.k == 3) = false := beq_false_of_ne n3
    have n4 : ¬ r.k = 4 := by omega
    have e4 : (r.k == 4) = false := beq_false_of_ne n4
    have n5 : ¬ r.k = 5 := by omega
    have e5 : (r.k == 5) = false := beq_false_of_ne n5
    have n6 : ¬ r.k = 6 := by omega
    have e6 : (r.k == 6) = false := beq_false_of_ne n6
    have n7 : ¬ r.k = 7 := by omega
    have e7 : (r.k == 7) = false := beq_false_of_ne n7
    have n8 : ¬ r.k = 8 := by omega
    have e8 : (r.k == 8) = false := beq_false_of_ne n8
    by_cases ht : r.t = 0
    · have e0 := ET0.out ht
      have HFF : Hid (F = false) := Lib.hid (by rw [HF.out]; unfold fitsB; simp [k1, ht])
      clear ht n2 n3 n4 n5 n6 n7 n8 k1
      go_enter Tryz.func38, Tryz.ntmps38
      go_wp2_with fail
      go_ret
      exact ⟨by rw [HFF.out]; rfl, HBW.out.trans ((Below.refl _ _).mono HBW.out.size)⟩
    · have e0 := ET1.out ht
      have HFF : Hid (F = true) := Lib.hid (by rw [HF.out]; unfold fitsB; simp [k1, ht])
      clear ht n2 n3 n4 n5 n6 n7 n8 k1
      go_enter Tryz.func38, Tryz.ntmps38
      go_wp2_with fail
      go_ret
      exact ⟨by rw [HFF.out]; rfl, HBW.out.trans ((Below.refl _ _).mono HBW.out.size)⟩
  by_cases k5 : r.k = 5
  · have ek : (r.k == 5) = true := by rw [beq_iff_eq]; exact k5
    have n1 : ¬ r.k = 1 := by omega
    have e1 : (r.k == 1) = false := beq_false_of_ne n1
    have n2 : ¬ r.k = 2 := by omega
    have e2 : (r.k == 2) = false := beq_false_of_ne n2
    have n3 : ¬ r.k = 3 := by omega
    have e3 : (r.k == 3) = false := beq_false_of_ne n3
    have n4 : ¬ r.k = 4 := by omega
    have e4 : (r.k == 4) = false := beq_false_of_ne n4
    have n6 : ¬ r.k = 6 := by omega
    have e6 : (r.k == 6) = false := beq_false_of_ne n6
    have n7 : ¬ r.k = 7 := by omega
    have e7 : (r.k == 7) = false := beq_false_of_ne n7
    have n8 : ¬ r.k = 8 := by omega
    have e8 : (r.k == 8) = false := beq_false_of_ne n8
    by_cases ht : r.t = 0
    · have e0 := ET0.out ht
      have HFF : Hid (F = false) := Lib.hid (by rw [HF.out]; unfold fitsB; simp [k5, ht])
      clear ht n1 n2 n3 n4 n6 n7 n8 k5
      go_enter Tryz.func38, Tryz.ntmps38
      go_wp2_with fail
      go_ret
      exact ⟨by rw [HFF.out]; rfl, HBW.out.trans ((Below.refl _ _).mono HBW.out.size)⟩
    · have e0 := ET1.out ht
      have HFF : Hid (F = true) := Lib.hid (by rw [HF.out]; unfold fitsB; simp [k5, ht])
      clear ht n1 n2 n3 n4 n6 n7 n8 k5
      go_enter Tryz.func38, Tryz.ntmps38
      go_wp2_with fail
      go_ret
      exact ⟨by rw [HFF.out]; rfl, HBW.out.trans ((Below.refl _ _).mono HBW.out.size)⟩
  by_cases k6 : r.k = 6
  · have ek : (r.k == 6) = true := by rw [beq_iff_eq]; exact k6
    have n1 : ¬ r.k = 1 := by omega
    have e1 : (r.k == 1) = false := beq_false_of_ne n1
    have n2 : ¬ r.k = 2 := by omega
    have e2 : (r.k == 2) = false := beq_false_of_ne n2
    have n3 : ¬ r.k = 3 := by omega
    have e3 : (r.k == 3) = false := beq_false_of_ne n3
    have n4 : ¬ r.k = 4 := by omega
    have e4 : (r.k == 4) = false := beq_false_of_ne n4
    have n5 : ¬ r.k = 5 := by omega
    have e5 : (r.k == 5) = false := beq_false_of_ne n5
    have n7 : ¬ r.k = 7 := by omega
    have e7 : (r.k == 7) = false := beq_false_of_ne n7
    have n8 : ¬ r.k = 8 := by omega
    have e8 : (r.k == 8) = false := beq_false_of_ne n8
    by_cases ht : r.t = 0
    · have e0 := ET0.out ht
      have HFF : Hid (F = false) := Lib.hid (by rw [HF.out]; unfold fitsB; simp [k6, ht])
      clear ht n1 n2 n3 n4 n5 n7 n8 k6
      go_enter Tryz.func38, Tryz.ntmps38
      go_wp2_with fail
      go_ret
      exact ⟨by rw [HFF.out]; rfl, HBW.out.trans ((Below.refl _ _).mono HBW.out.size)⟩
    · have e0 := ET1.out ht
      have HFF : Hid (F = true) := Lib.hid (by rw [HF.out]; unfold fitsB; simp [k6, ht])
      clear ht n1 n2 n3 n4 n5 n7 n8 k6
      go_enter Tryz.func38, Tryz.ntmps38
      go_wp2_with fail
      go_ret
      exact ⟨by rw [HFF.out]; rfl, HBW.out.trans ((Below.refl _ _).mono HBW.out.size)⟩
  by_cases k7 : r.k = 7
  · have ek : (r.k == 7) = true := by rw [beq_iff_eq]; exact k7
    have n1 : ¬ r.k = 1 := by omega
    have e1 : (r.k == 1) = false := beq_false_of_ne n1
    have n2 : ¬ r.k = 2 := by omega
    have e2 : (r.k == 2) = false := beq_false_of_ne n2
    have n3 : ¬ r.k = 3 := by omega
    have e3 : (r.k == 3) = false := beq_false_of_ne n3
    have n4 : ¬ r.k = 4 := by omega
    have e4 : (r.k == 4) = false := beq_false_of_ne n4
    have n5 : ¬ r.k = 5 := by omega
    have e5 : (r.k == 5) = false := beq_false_of_ne n5
    have n6 : ¬ r.k = 6 := by omega
    have e6 : (r.k == 6) = false := beq_false_of_ne n6
    have n8 : ¬ r.k = 8 := by omega
    have e8 : (r.k == 8) = false := beq_false_of_ne n8
    by_cases ht : r.t = 0
    · have e0 := ET0.out ht
      have HFF : Hid (F = false) := Lib.hid (by rw [HF.out]; unfold fitsB; simp [k7, ht])
      clear ht n1 n2 n3 n4 n5 n6 n8 k7
      go_enter Tryz.func38, Tryz.ntmps38
      go_wp2_with fail
      go_ret
      exact ⟨by rw [HFF.out]; rfl, HBW.out.trans ((Below.refl _ _).mono HBW.out.size)⟩
    · have e0 := ET1.out ht
      have HFF : Hid (F = true) := Lib.hid (by rw [HF.out]; unfold fitsB; simp [k7, ht])
      clear ht n1 n2 n3 n4 n5 n6 n8 k7
      go_enter Tryz.func38, Tryz.ntmps38
      go_wp2_with fail
      go_ret
      exact ⟨by rw [HFF.out]; rfl, HBW.out.trans ((Below.refl _ _).mono HBW.out.size)⟩
  by_cases k2 : r.k = 2
  · have ek : (r.k == 2) = true := by rw [beq_iff_eq]; exact k2
    have n1 : ¬ r.k = 1 := by omega
    have e1 : (r.k == 1) = false := beq_false_of_ne n1
    have n3 : ¬ r.k = 3 := by omega
    have e3 : (r.k == 3) = false := beq_false_of_ne n3
    have n4 : ¬ r.k = 4 := by omega
    have e4 : (r.k == 4) = false := beq_false_of_ne n4
    have n5 : ¬ r.k = 5 := by omega
    have e5 : (r.k == 5) = false := beq_false_of_ne n5
    have n6 : ¬ r.k = 6 := by omega
    have e6 : (r.k == 6) = false := beq_false_of_ne n6
    have n7 : ¬ r.k = 7 := by omega
    have e7 : (r.k == 7) = false := beq_false_of_ne n7
    have n8 : ¬ r.k = 8 := by omega
    have e8 : (r.k == 8) = false := beq_false_of_ne n8
    by_cases hp : r.pg = 0
    · have ep : ((r.pg : Int) == 0) = true := by rw [beq_iff_eq]; omega
      have HFF : Hid (F = false) := Lib.hid (by rw [HF.out]; unfold fitsB; simp [k2, hp])
      clear hp k2 n1 n3 n4 n5 n6 n7 n8
      go_enter Tryz.func38, Tryz.ntmps38
      go_wp2_with fail
      go_ret
      exact ⟨by rw [HFF.out]; rfl, HBW.out.trans ((Below.refl _ _).mono HBW.out.size)⟩
    · have ep : ((r.pg : Int) == 0) = false := beq_false_of_ne (by omega)
      obtain ⟨fb, hfb⟩ : ∃ fb, fb = fo r := ⟨_, rfl⟩
      have HFB := Lib.hid hfb
      have hfo := HFO.out W
      rw [← hfb] at hfo
      have HFO2 := Lib.hid hfo
      have HFV : Hid (F = (fb && decide (r.t ≠ 0))) := Lib.hid (by rw [HF.out, hfb]; unfold fitsB; simp [k2, hp])
      clear hp k2 n1 n3 n4 n5 n6 n7 n8 hfb hfo
      go_enter Tryz.func38, Tryz.ntmps38
      go_wp2_with fail
      with_reducible refine HFO2.out.mono ?_
      rintro e w2 ⟨rfl, hb2⟩
      have HB2 := Lib.hid hb2
      obtain ⟨y0, y1, y2, y3, y4, y5, y6, y7, y8, y9, y10, y11, y12, y13, y14⟩ := rcs_cells (HBX.out.below hb2 HBX.out.lt)
      clear hb2
      cases fb with
      | false =>
        have HFF : Hid (F = false) := Lib.hid (by rw [HFV.out]; rfl)
        go_wp2_with fail
        go_ret
        exact ⟨by rw [HFF.out]; rfl, HBW.out.trans (HB2.out.mono HBW.out.size)⟩
      | true =>
        by_cases ht : r.t = 0
        · have e0 := ET0.out ht
          have HFF : Hid (F = false) := Lib.hid (by rw [HFV.out]; simp [ht])
          clear ht
          go_wp2_with fail
          go_ret
          exact ⟨by rw [HFF.out]; rfl, HBW.out.trans (HB2.out.mono HBW.out.size)⟩
        · have e0 := ET1.out ht
          have HFF : Hid (F = true) := Lib.hid (by rw [HFV.out]; simp [ht])
          clear ht
          go_wp2_with fail
          go_ret
          exact ⟨by rw [HFF.out]; rfl, HBW.out.trans (HB2.out.mono HBW.out.size)⟩
  by_cases k3 : r.k = 3
  · have ek : (r.k == 3) = true := by rw [beq_iff_eq]; exact k3
    have n1 : ¬ r.k = 1 := by omega
    have e1 : (r.k == 1) = false := beq_false_of_ne n1
    have n2 : ¬ r.k = 2 := by omega
    have e2 : (r.k == 2) = false := beq_false_of_ne n2
    have n4 : ¬ r.k = 4 := by omega
    have e4 : (r.k == 4) = false := beq_false_of_ne n4
    have n5 : ¬ r.k = 5 := by omega
    have e5 : (r.k == 5) = false := beq_false_of_ne n5
    have n6 : ¬ r.k = 6 := by omega
    have e6 : (r.k == 6) = false := beq_false_of_ne n6
    have n7 : ¬ r.k = 7 := by omega
    have e7 : (r.k == 7) = false := beq_false_of_ne n7
    have n8 : ¬ r.k = 8 := by omega
    have e8 : (r.k == 8) = false := beq_false_of_ne n8
    by_cases hp : r.pg = 0
    · have ep : ((r.pg : Int) == 0) = true := by rw [beq_iff_eq]; omega
      have HFF : Hid (F = false) := Lib.hid (by rw [HF.out]; unfold fitsB; simp [k3, hp])
      clear hp k3 n1 n2 n4 n5 n6 n7 n8
      go_enter Tryz.func38, Tryz.ntmps38
      go_wp2_with fail
      go_ret
      exact ⟨by rw [HFF.out]; rfl, HBW.out.trans ((Below.refl _ _).mono HBW.out.size)⟩
    · have ep : ((r.pg : Int) == 0) = false := beq_false_of_ne (by omega)
      obtain ⟨fb, hfb⟩ : ∃ fb, fb = fo r := ⟨_, rfl⟩
      have HFB := Lib.hid hfb
      have hfo := HFO.out W
      rw [← hfb] at hfo
      have HFO2 := Lib.hid hfo
      have HFV : Hid (F = (fb && decide (r.t ≠ 0))) := Lib.hid (by rw [HF.out, hfb]; unfold fitsB; simp [k3, hp])
      clear hp k3 n1 n2 n4 n5 n6 n7 n8 hfb hfo
      go_enter Tryz.func38, Tryz.ntmps38
      go_wp2_with fail
      with_reducible refine HFO2.out.mono ?_
      rintro e w2 ⟨rfl, hb2⟩
      have HB2 := Lib.hid hb2
      obtain ⟨y0, y1, y2, y3, y4, y5, y6, y7, y8, y9, y10, y11, y12, y13, y14⟩ := rcs_cells (HBX.out.below hb2 HBX.out.lt)
      clear hb2
      cases fb with
      | false =>
        have HFF : Hid (F = false) := Lib.hid (by rw [HFV.out]; rfl)
        go_wp2_with fail
        go_ret
        exact ⟨by rw [HFF.out]; rfl, HBW.out.trans (HB2.out.mono HBW.out.size)⟩
      | true =>
        by_cases ht : r.t = 0
        · have e0 := ET0.out ht
          have HFF : Hid (F = false) := Lib.hid (by rw [HFV.out]; simp [ht])
          clear ht
          go_wp2_with fail
          go_ret
          exact ⟨by rw [HFF.out]; rfl, HBW.out.trans (HB2.out.mono HBW.out.size)⟩
        · have e0 := ET1.out ht
          have HFF : Hid (F = true) := Lib.hid (by rw [HFV.out]; simp [ht])
          clear ht
          go_wp2_with fail
          go_ret
          exact ⟨by rw [HFF.out]; rfl, HBW.out.trans (HB2.out.mono HBW.out.size)⟩
  by_cases k4 : r.k = 4
  · have ek : (r.k == 4) = true := by rw [beq_iff_eq]; exact k4
    have n1 : ¬ r.k = 1 := by omega
    have e1 : (r.k == 1) = false := beq_false_of_ne n1
    have n2 : ¬ r.k = 2 := by omega
    have e2 : (r.k == 2) = false := beq_false_of_ne n2
    have n3 : ¬ r.k = 3 := by omega
    have e3 : (r.k == 3) = false := beq_false_of_ne n3
    have n5 : ¬ r.k = 5 := by omega
    have e5 : (r.k == 5) = false := beq_false_of_ne n5
    have n6 : ¬ r.k = 6 := by omega
    have e6 : (r.k == 6) = false := beq_false_of_ne n6
    have n7 : ¬ r.k = 7 := by omega
    have e7 : (r.k == 7) = false := beq_false_of_ne n7
    have n8 : ¬ r.k = 8 := by omega
    have e8 : (r.k == 8) = false := beq_false_of_ne n8
    by_cases hm : r.im = 0
    · have em : decide ((r.im : Int) > 0) = false := decide_eq_false (by omega)
      have em2 : decide (0 < r.im) = false := decide_eq_false (by omega)
      have HFF : Hid (F = false) := Lib.hid (by rw [HF.out]; unfold fitsB; simp [k4, hm])
      clear hm k4 n1 n2 n3 n5 n6 n7 n8
      go_enter Tryz.func38, Tryz.ntmps38
      go_wp2_with fail
      go_ret
      exact ⟨by rw [HFF.out]; rfl, HBW.out.trans ((Below.refl _ _).mono HBW.out.size)⟩
    · have em : decide ((r.im : Int) > 0) = true := decide_eq_true (by omega)
      have em2 : decide (0 < r.im) = true := decide_eq_true (by omega)
      obtain ⟨ra, hra⟩ : ∃ ra, ra = rising 0 (r.il.map IV.t) := ⟨_, rfl⟩
      obtain ⟨rf, hrf⟩ : ∃ rf, rf = freshB r.il := ⟨_, rfl⟩
      have h1 := HRI.out
      have h2 := HFR.out
      rw [← hra] at h1
      rw [← hrf] at h2
      have H1 := Lib.hid h1
      have H2 := Lib.hid h2
      have HFV : Hid (F = (ra && rf)) := Lib.hid (by rw [HF.out, hra, hrf]; unfold fitsB; simp [k4, em2])
      clear hm k4 n1 n2 n3 n5 n6 n7 n8 hra hrf h1 h2
      go_enter Tryz.func38, Tryz.ntmps38
      go_wp2_with fail
      with_reducible refine (H1.out _ (Below.refl _ _)).mono ?_
      rintro e w2 ⟨rfl, hb2⟩
      have HB2 := Lib.hid hb2
      obtain ⟨y0, y1, y2, y3, y4, y5, y6, y7, y8, y9, y10, y11, y12, y13, y14⟩ := rcs_cells (HBX.out.below hb2 HBX.out.lt)
      clear hb2
      cases ra with
      | false =>
        have HFF : Hid (F = false) := Lib.hid (by rw [HFV.out]; rfl)
        go_wp2_with fail
        go_ret
        exact ⟨by rw [HFF.out]; rfl, HBW.out.trans (HB2.out.mono HBW.out.size)⟩
      | true =>
        go_wp2_with fail
        with_reducible refine (H2.out _ HB2.out).mono ?_
        rintro e w3 ⟨rfl, hb3⟩
        have HB3 := Lib.hid (HB2.out.trans (hb3.mono HB2.out.size))
        have HFF : Hid (F = rf) := Lib.hid (by rw [HFV.out]; rfl)
        clear hb3
        go_wp2_with fail
        go_ret
        exact ⟨by rw [HFF.out]; rfl, HBW.out.trans (HB3.out.mono HBW.out.size)⟩
  by_cases k8 : r.k = 8
  · have ek : (r.k == 8) = true := by rw [beq_iff_eq]; exact k8
    have n1 : ¬ r.k = 1 := by omega
    have e1 : (r.k == 1) = false := beq_false_of_ne n1
    have n2 : ¬ r.k = 2 := by omega
    have e2 : (r.k == 2) = false := beq_false_of_ne n2
    have n3 : ¬ r.k = 3 := by omega
    have e3 : (r.k == 3) = false := beq_false_of_ne n3
    have n4 : ¬ r.k = 4 := by omega
    have e4 : (r.k == 4) = false := beq_false_of_ne n4
    have n5 : ¬ r.k = 5 := by omega
    have e5 : (r.k == 5) = false := beq_false_of_ne n5
    have n6 : ¬ r.k = 6 := by omega
    have e6 : (r.k == 6) = false := beq_false_of_ne n6
    have n7 : ¬ r.k = 7 := by omega
    have e7 : (r.k == 7) = false := beq_false_of_ne n7
    obtain ⟨ra, hra⟩ : ∃ ra, ra = rising 0 (r.ll.map LV.t) := ⟨_, rfl⟩
    obtain ⟨rf, hrf⟩ : ∃ rf, rf = rising 0 (r.dl.map DV.t) := ⟨_, rfl⟩
    have h1 := HRL.out
    have h2 := HRD.out
    rw [← hra] at h1
    rw [← hrf] at h2
    have H1 := Lib.hid h1
    have H2 := Lib.hid h2
    have HFV : Hid (F = (ra && rf)) := Lib.hid (by rw [HF.out, hra, hrf]; unfold fitsB; simp [k8])
    clear k8 n1 n2 n3 n4 n5 n6 n7 hra hrf h1 h2
    go_enter Tryz.func38, Tryz.ntmps38
    go_wp2_with fail
    with_reducible refine (H1.out _ (Below.refl _ _)).mono ?_
    rintro e w2 ⟨rfl, hb2⟩
    have HB2 := Lib.hid hb2
    obtain ⟨y0, y1, y2, y3, y4, y5, y6, y7, y8, y9, y10, y11, y12, y13, y14⟩ := rcs_cells (HBX.out.below hb2 HBX.out.lt)
    clear hb2
    cases ra with
    | false =>
      have HFF : Hid (F = false) := Lib.hid (by rw [HFV.out]; rfl)
      go_wp2_with fail
      go_ret
      exact ⟨by rw [HFF.out]; rfl, HBW.out.trans (HB2.out.mono HBW.out.size)⟩
    | true =>
      go_wp2_with fail
      with_reducible refine (H2.out _ HB2.out).mono ?_
      rintro e w3 ⟨rfl, hb3⟩
      have HB3 := Lib.hid (HB2.out.trans (hb3.mono HB2.out.size))
      have HFF : Hid (F = rf) := Lib.hid (by rw [HFV.out]; rfl)
      clear hb3
      go_wp2_with fail
      go_ret
      exact ⟨by rw [HFF.out]; rfl, HBW.out.trans (HB3.out.mono HBW.out.size)⟩
  have e1 : (r.k == 1) = false := beq_false_of_ne k1
  have e2 : (r.k == 2) = false := beq_false_of_ne k2
  have e3 : (r.k == 3) = false := beq_false_of_ne k3
  have e4 : (r.k == 4) = false := beq_false_of_ne k4
  have e5 : (r.k == 5) = false := beq_false_of_ne k5
  have e6 : (r.k == 6) = false := beq_false_of_ne k6
  have e7 : (r.k == 7) = false := beq_false_of_ne k7
  have e8 : (r.k == 8) = false := beq_false_of_ne k8
  have HFF : Hid (F = false) := Lib.hid (by rw [HF.out]; unfold fitsB; simp [k1, k2, k3, k4, k5, k6, k7, k8])
  clear k1 k2 k3 k4 k5 k6 k7 k8
  go_enter Tryz.func38, Tryz.ntmps38
  go_wp2_with fail
  go_ret
  exact ⟨by rw [HFF.out]; rfl, HBW.out.trans ((Below.refl _ _).mono HBW.out.size)⟩
end Go.Proofs.YtdhgbkibbileiaaGreat
