/-
  WHETHER A RECORD FITS: fitsOp, fits.
-/
import Derived.Test.YtdhgbkibbileiaaGreatRF
namespace Go.Proofs.YtdhgbkibbileiaaGreat
open Go.RowKit

theorem box_rv (w : World) (r : RV) : ∃ W, w.alloc (.cells (rcs r) 31) = W ∧ Below w.heap.size w W ∧ Blk W w.heap.size 31 (rcs r) ∧ W.heap.size = w.heap.size + 1 :=
  ⟨_, rfl, (Below.refl _ _).alloc (Nat.le_refl _) _, Blk.new w 31 _, by simp⟩
theorem rcs_cells {w : World} {g : Nat} {r : RV} (h : Blk w g 31 (rcs r)) : w.cell? ⟨g, 0, none⟩ = some (.int .i64 r.k) ∧ w.cell? ⟨g, 1, none⟩ = some (.int .u64 (r.s : Int)) ∧ w.cell? ⟨g, 2, none⟩ = some (.int .u32 (r.t : Int)) ∧ w.cell? ⟨g, 3, none⟩ = some (.int .u64 (r.a : Int)) ∧ w.cell? ⟨g, 4, none⟩ = some (.int .u64 (r.b : Int)) ∧ w.cell? ⟨g, 5, none⟩ = some (.int .u32 (r.pg : Int)) ∧ w.cell? ⟨g, 6, none⟩ = some (.int .u32 (r.rt : Int)) ∧ w.cell? ⟨g, 7, none⟩ = some (.int .i64 r.o.k) ∧ w.cell? ⟨g, 8, none⟩ = some (.int .i64 r.o.s) ∧ w.cell? ⟨g, 9, none⟩ = some (.int .u32 (r.o.t : Int)) ∧ w.cell? ⟨g, 10, none⟩ = some (.slice r.o.A r.o.m r.o.c) ∧ w.cell? ⟨g, 11, none⟩ = some (.slice r.iA r.im r.ic) ∧ w.cell? ⟨g, 12, none⟩ = some (.slice r.lA r.lm r.lc) ∧ w.cell? ⟨g, 13, none⟩ = some (.slice r.dA r.dm r.dc) ∧ w.cell? ⟨g, 14, none⟩ = some (.int .u32 (r.nx : Int)) := by
  unfold rcs at h
  have h0 := h.cell 0
  have h1 := h.cell 1
  have h2 := h.cell 2
  have h3 := h.cell 3
  have h4 := h.cell 4
  have h5 := h.cell 5
  have h6 := h.cell 6
  have h7 := h.cell 7
  have h8 := h.cell 8
  have h9 := h.cell 9
  have h10 := h.cell 10
  have h11 := h.cell 11
  have h12 := h.cell 12
  have h13 := h.cell 13
  have h14 := h.cell 14
  simp only [List.getElem?_toArray, List.getElem?_cons_zero, List.getElem?_cons_succ] at h0 h1 h2 h3 h4 h5 h6 h7 h8 h9 h10 h11 h12 h13 h14
  exact ⟨h0, h1, h2, h3, h4, h5, h6, h7, h8, h9, h10, h11, h12, h13, h14⟩
/-- is the operation as the kind asks? -/
def fo (r : RV) : Bool := ((decide (r.o.k = 3) || decide (r.o.k = 4)) == decide (r.k = 3)) && (rightP (if r.rt = 0 then 1 else 2) r.o.k r.o.s r.o.t r.o.m && (decide (0 ≤ r.o.s) && decide (r.o.s < 60)))
set_option maxHeartbeats 8000000 in
set_option maxRecDepth 100000 in
theorem fitsOp_any (w : World) (r : RV) : Calls Tryz.prog 60 #[r.agg] w fun e w' => e = .returned (.bool (fo r)) ∧ Below w.heap.size w w' := by
  obtain ⟨W, hW, hBW, hbx, hsz⟩ := box_rv w r
  obtain ⟨y0, y1, y2, y3, y4, y5, y6, y7, y8, y9, y10, y11, y12, y13, y14⟩ := rcs_cells hbx
  have HBW := Lib.hid hBW
  have HBX := Lib.hid hbx
  obtain ⟨pk, hpk⟩ : ∃ pk : Int, pk = if r.rt = 0 then 1 else 2 := ⟨_, rfl⟩
  have HPK : Hid (∀ W', Calls Tryz.prog 102 #[.int .u32 (r.rt : Int)] W' fun e w' => e = .returned (.int .i64 pk) ∧ Below W'.heap.size W' w') := Lib.hid (fun W' => (pageKind_any W' r.rt).mono fun e w' hh => ⟨by rw [hh.1, hpk], by rw [← hh.2]; exact Below.refl _ _⟩)
  obtain ⟨rb, hrb⟩ : ∃ rb, rb = rightP pk r.o.k r.o.s r.o.t r.o.m := ⟨_, rfl⟩
  have hrt := fun W' => right_any pk r.o W'
  rw [← hrb] at hrt
  simp only [OV.agg] at hrt
  have HRT := Lib.hid hrt
  obtain ⟨F, hF⟩ : ∃ F, F = fo r := ⟨_, rfl⟩
  rw [← hF]
  have HF : Hid (F = (((decide (r.o.k = 3) || decide (r.o.k = 4)) == decide (r.k = 3)) && (rb && (decide (0 ≤ r.o.s) && decide (r.o.s < 60))))) := Lib.hid (by rw [hF, hrb, hpk]; rfl)
  simp only [rcs] at hW
  unfold RV.agg
  clear hBW hbx hsz hpk hrt hrb hF
  by_cases ak : r.k = 3
  · have ek : (r.k == 3) = true := by rw [beq_iff_eq]; exact ak
    by_cases a3 : r.o.k = 3
    · have e3 : (r.o.k == 3) = true := by rw [beq_iff_eq]; exact a3
      cases rb with
      | false =>
        have HFF : Hid (F = false) := Lib.hid (by rw [HF.out]; simp [ak, a3])
        clear ak a3
        go_enter Tryz.func60, Tryz.ntmps60
        go_upto_region 2 with fail
        have zq0 := fun d os => cell_regrown y0 d os
        have zq6 := fun d os => cell_regrown y6 d os
        have zq7 := fun d os => cell_regrown y7 d os
        have zq8 := fun d os => cell_regrown y8 d os
        have zq9 := fun d os => cell_regrown y9 d os
        have zq10 := fun d os => cell_regrown y10 d os
        refine wp_region_quiet_below (by kernel_rfl) (by kernel_rfl) ?_
        repeat (go_big_quiet_step (first | (go_at_call 102; with_reducible exact Calls.regrown_of (HPK.out _)) | (go_at_call 101; with_reducible exact Calls.regrown_of (HRT.out _))))
        refine wpQuiet_nil ?_
        rintro W3 ⟨pp, hpp⟩
        have HB3 := Lib.hid (show Below W.heap.size W W3 by rw [hpp]; exact below_regrown _ _ _)
        obtain ⟨y0, y1, y2, y3, y4, y5, y6, y7, y8, y9, y10, y11, y12, y13, y14⟩ := rcs_cells (HBX.out.below HB3.out HBX.out.lt)
        clear hpp zq0 zq6 zq7 zq8 zq9 zq10
        go_wp2_with fail
        go_ret
        exact ⟨by rw [HFF.out]; rfl, HBW.out.trans (HB3.out.mono HBW.out.size)⟩
      | true =>
        by_cases s0 : 0 ≤ r.o.s
        · have f0 : decide (r.o.s ≥ 0) = true := decide_eq_true (by omega)
          by_cases s1 : r.o.s < 60
          · have f1 : decide (r.o.s < 60) = true := decide_eq_true s1
            have HFF : Hid (F = true) := Lib.hid (by rw [HF.out]; simp [ak, a3, s0, s1])
            clear ak a3 s0 s1
            go_enter Tryz.func60, Tryz.ntmps60
            go_upto_region 2 with fail
            have zq0 := fun d os => cell_regrown y0 d os
            have zq6 := fun d os => cell_regrown y6 d os
            have zq7 := fun d os => cell_regrown y7 d os
            have zq8 := fun d os => cell_regrown y8 d os
            have zq9 := fun d os => cell_regrown y9 d os
            have zq10 := fun d os => cell_regrown y10 d os
            refine wp_region_quiet_below (by kernel_rfl) (by kernel_rfl) ?_
            repeat (go_big_quiet_step (first | (go_at_call 102; with_reducible exact Calls.regrown_of (HPK.out _)) | (go_at_call 101; with_reducible exact Calls.regrown_of (HRT.out _))))
            refine wpQuiet_nil ?_
            rintro W3 ⟨pp, hpp⟩
            have HB3 := Lib.hid (show Below W.heap.size W W3 by rw [hpp]; exact below_regrown _ _ _)
            obtain ⟨y0, y1, y2, y3, y4, y5, y6, y7, y8, y9, y10, y11, y12, y13, y14⟩ := rcs_cells (HBX.out.below HB3.out HBX.out.lt)
            clear hpp zq0 zq6 zq7 zq8 zq9 zq10
            go_wp2_with fail
            go_ret
            exact ⟨by rw [HFF.out]; rfl, HBW.out.trans (HB3.out.mono HBW.out.size)⟩
          · have f1 : decide (r.o.s < 60) = false := decide_eq_false s1
            have HFF : Hid (F = false) := Lib.hid (by rw [HF.out]; simp [ak, a3, s1])
            clear ak a3 s0 s1
            go_enter Tryz.func60, Tryz.ntmps60
            go_upto_region 2 with fail
            have zq0 := fun d os => cell_regrown y0 d os
            have zq6 := fun d os => cell_regrown y6 d os
            have zq7 := fun d os => cell_regrown y7 d os
            have zq8 := fun d os => cell_regrown y8 d os
            have zq9 := fun d os => cell_regrown y9 d os
            have zq10 := fun d os => cell_regrown y10 d os
            refine wp_region_quiet_below (by kernel_rfl) (by kernel_rfl) ?_
            repeat (go_big_quiet_step (first | (go_at_call 102; with_reducible exact Calls.regrown_of (HPK.out _)) | (go_at_call 101; with_reducible exact Calls.regrown_of (HRT.out _))))
            refine wpQuiet_nil ?_
            rintro W3 ⟨pp, hpp⟩
            have HB3 := Lib.hid (show Below W.heap.size W W3 by rw [hpp]; exact below_regrown _ _ _)
            obtain ⟨y0, y1, y2, y3, y4, y5, y6, y7, y8, y9, y10, y11, y12, y13, y14⟩ := rcs_cells (HBX.out.below HB3.out HBX.out.lt)
            clear hpp zq0 zq6 zq7 zq8 zq9 zq10
            go_wp2_with fail
            go_ret
            exact ⟨by rw [HFF.out]; rfl, HBW.out.trans (HB3.out.mono HBW.out.size)⟩
        · have f0 : decide (r.o.s ≥ 0) = false := decide_eq_false (by omega)
          have HFF : Hid (F = false) := Lib.hid (by rw [HF.out]; simp [ak, a3, s0])
          clear ak a3 s0
          go_enter Tryz.func60, Tryz.ntmps60
          go_upto_region 2 with fail
          have zq0 := fun d os => cell_regrown y0 d os
          have zq6 := fun d os => cell_regrown y6 d os
          have zq7 := fun d os => cell_regrown y7 d os
          have zq8 := fun d os => cell_regrown y8 d os
          have zq9 := fun d os => cell_regrown y9 d os
          have zq10 := fun d os => cell_regrown y10 d os
          refine wp_region_quiet_below (by kernel_rfl) (by kernel_rfl) ?_
          repeat (go_big_quiet_step (first | (go_at_call 102; with_reducible exact Calls.regrown_of (HPK.out _)) | (go_at_call 101; with_reducible exact Calls.regrown_of (HRT.out _))))
          refine wpQuiet_nil ?_
          rintro W3 ⟨pp, hpp⟩
          have HB3 := Lib.hid (show Below W.heap.size W W3 by rw [hpp]; exact below_regrown _ _ _)
          obtain ⟨y0, y1, y2, y3, y4, y5, y6, y7, y8, y9, y10, y11, y12, y13, y14⟩ := rcs_cells (HBX.out.below HB3.out HBX.out.lt)
          clear hpp zq0 zq6 zq7 zq8 zq9 zq10
          go_wp2_with fail
          go_ret
          exact ⟨by rw [HFF.out]; rfl, HBW.out.trans (HB3.out.mono HBW.out.size)⟩
    · have e3 : (r.o.k == 3) = false := beq_false_of_ne a3
      by_cases a4 : r.o.k = 4
      · have e4 : (r.o.k == 4) = true := by rw [beq_iff_eq]; exact a4
        cases rb with
        | false =>
          have HFF : Hid (F = false) := Lib.hid (by rw [HF.out]; simp [ak, a4])
          clear ak a3 a4
          go_enter Tryz.func60, Tryz.ntmps60
          go_upto_region 2 with fail
          have zq0 := fun d os => cell_regrown y0 d os
          have zq6 := fun d os => cell_regrown y6 d os
          have zq7 := fun d os => cell_regrown y7 d os
          have zq8 := fun d os => cell_regrown y8 d os
          have zq9 := fun d os => cell_regrown y9 d os
          have zq10 := fun d os => cell_regrown y10 d os
          refine wp_region_quiet_below (by kernel_rfl) (by kernel_rfl) ?_
          repeat (go_big_quiet_step (first | (go_at_call 102; with_reducible exact Calls.regrown_of (HPK.out _)) | (go_at_call 101; with_reducible exact Calls.regrown_of (HRT.out _))))
          refine wpQuiet_nil ?_
          rintro W3 ⟨pp, hpp⟩
          have HB3 := Lib.hid (show Below W.heap.size W W3 by rw [hpp]; exact below_regrown _ _ _)
          obtain ⟨y0, y1, y2, y3, y4, y5, y6, y7, y8, y9, y10, y11, y12, y13, y14⟩ := rcs_cells (HBX.out.below HB3.out HBX.out.lt)
          clear hpp zq0 zq6 zq7 zq8 zq9 zq10
          go_wp2_with fail
          go_ret
          exact ⟨by rw [HFF.out]; rfl, HBW.out.trans (HB3.out.mono HBW.out.size)⟩
        | true =>
          by_cases s0 : 0 ≤ r.o.s
          · have f0 : decide (r.o.s ≥ 0) = true := decide_eq_true (by omega)
            by_cases s1 : r.o.s < 60
            · have f1 : decide (r.o.s < 60) = true := decide_eq_true s1
              have HFF : Hid (F = true) := Lib.hid (by rw [HF.out]; simp [ak, a4, s0, s1])
              clear ak a3 a4 s0 s1
              go_enter Tryz.func60, Tryz.ntmps60
              go_upto_region 2 with fail
              have zq0 := fun d os => cell_regrown y0 d os
              have zq6 := fun d os => cell_regrown y6 d os
              have zq7 := fun d os => cell_regrown y7 d os
              have zq8 := fun d os => cell_regrown y8 d os
              have zq9 := fun d os => cell_regrown y9 d os
              have zq10 := fun d os => cell_regrown y10 d os
              refine wp_region_quiet_below (by kernel_rfl) (by kernel_rfl) ?_
              repeat (go_big_quiet_step (first | (go_at_call 102; with_reducible exact Calls.regrown_of (HPK.out _)) | (go_at_call 101; with_reducible exact Calls.regrown_of (HRT.out _))))
              refine wpQuiet_nil ?_
              rintro W3 ⟨pp, hpp⟩
              have HB3 := Lib.hid (show Below W.heap.size W W3 by rw [hpp]; exact below_regrown _ _ _)
              obtain ⟨y0, y1, y2, y3, y4, y5, y6, y7, y8, y9, y10, y11, y12, y13, y14⟩ := rcs_cells (HBX.out.below HB3.out HBX.out.lt)
              clear hpp zq0 zq6 zq7 zq8 zq9 zq10
              go_wp2_with fail
              go_ret
              exact ⟨by rw [HFF.out]; rfl, HBW.out.trans (HB3.out.mono HBW.out.size)⟩
            · have f1 : decide (r.o.s < 60) = false := decide_eq_false s1
              have HFF : Hid (F = false) := Lib.hid (by rw [HF.out]; simp [ak, a4, s1])
              clear ak a3 a4 s0 s1
              go_enter Tryz.func60, Tryz.ntmps60
              go_upto_region 2 with fail
              have zq0 := fun d os => cell_regrown y0 d os
              have zq6 := fun d os => cell_regrown y6 d os
              have zq7 := fun d os => cell_regrown y7 d os
              have zq8 := fun d os => cell_regrown y8 d os
              have zq9 := fun d os => cell_regrown y9 d os
              have zq10 := fun d os => cell_regrown y10 d os
              refine wp_region_quiet_below (by kernel_rfl) (by kernel_rfl) ?_
              repeat (go_big_quiet_step (first | (go_at_call 102; with_reducible exact Calls.regrown_of (HPK.out _)) | (go_at_call 101; with_reducible exact Calls.regrown_of (HRT.out _))))
              refine wpQuiet_nil ?_
              rintro W3 ⟨pp, hpp⟩
              have HB3 := Lib.hid (show Below W.heap.size W W3 by rw [hpp]; exact below_regrown _ _ _)
              obtain ⟨y0, y1, y2, y3, y4, y5, y6, y7, y8, y9, y10, y11, y12, y13, y14⟩ := rcs_cells (HBX.out.below HB3.out HBX.out.lt)
              clear hpp zq0 zq6 zq7 zq8 zq9 zq10
              go_wp2_with fail
              go_ret
              exact ⟨by rw [HFF.out]; rfl, HBW.out.trans (HB3.out.mono HBW.out.size)⟩
          · have f0 : decide (r.o.s ≥ 0) = false := decide_eq_false (by omega)
            have HFF : Hid (F = false) := Lib.hid (by rw [HF.out]; simp [ak, a4, s0])
            clear ak a3 a4 s0
            go_enter Tryz.func60, Tryz.ntmps60
            go_upto_region 2 with fail
            have zq0 := fun d os => cell_regrown y0 d os
            have zq6 := fun d os => cell_regrown y6 d os
            have zq7 := fun d os => cell_regrown y7 d os
            have zq8 := fun d os => cell_regrown y8 d os
            have zq9 := fun d os => cell_regrown y9 d os
            have zq10 := fun d os => cell_regrown y10 d os
            refine wp_region_quiet_below (by kernel_rfl) (by kernel_rfl) ?_
            repeat (go_big_quiet_step (first | (go_at_call 102; with_reducible exact Calls.regrown_of (HPK.out _)) | (go_at_call 101; with_reducible exact Calls.regrown_of (HRT.out _))))
            refine wpQuiet_nil ?_
            rintro W3 ⟨pp, hpp⟩
            have HB3 := Lib.hid (show Below W.heap.size W W3 by rw [hpp]; exact below_regrown _ _ _)
            obtain ⟨y0, y1, y2, y3, y4, y5, y6, y7, y8, y9, y10, y11, y12, y13, y14⟩ := rcs_cells (HBX.out.below HB3.out HBX.out.lt)
            clear hpp zq0 zq6 zq7 zq8 zq9 zq10
            go_wp2_with fail
            go_ret
            exact ⟨by rw [HFF.out]; rfl, HBW.out.trans (HB3.out.mono HBW.out.size)⟩
      · have e4 : (r.o.k == 4) = false := beq_false_of_ne a4
        have HFF : Hid (F = false) := Lib.hid (by rw [HF.out]; simp [ak, a3, a4])
        clear ak a3 a4
        go_enter Tryz.func60, Tryz.ntmps60
        go_upto_region 2 with fail
        have zq0 := fun d os => cell_regrown y0 d os
        have zq6 := fun d os => cell_regrown y6 d os
        have zq7 := fun d os => cell_regrown y7 d os
        have zq8 := fun d os => cell_regrown y8 d os
        have zq9 := fun d os => cell_regrown y9 d os
        have zq10 := fun d os => cell_regrown y10 d os
        refine wp_region_quiet_below (by kernel_rfl) (by kernel_rfl) ?_
        repeat (go_big_quiet_step (fail))
        refine wpQuiet_nil ?_
        rintro W3 ⟨pp, hpp⟩
        have HB3 := Lib.hid (show Below W.heap.size W W3 by rw [hpp]; exact below_regrown _ _ _)
        obtain ⟨y0, y1, y2, y3, y4, y5, y6, y7, y8, y9, y10, y11, y12, y13, y14⟩ := rcs_cells (HBX.out.below HB3.out HBX.out.lt)
        clear hpp zq0 zq6 zq7 zq8 zq9 zq10
        go_wp2_with fail
        go_ret
        exact ⟨by rw [HFF.out]; rfl, HBW.out.trans (HB3.out.mono HBW.out.size)⟩
  · have ek : (r.k == 3) = false := beq_false_of_ne ak
    by_cases a3 : r.o.k = 3
    · have e3 : (r.o.k == 3) = true := by rw [beq_iff_eq]; exact a3
      have HFF : Hid (F = false) := Lib.hid (by rw [HF.out]; simp [ak, a3])
      clear ak a3
      go_enter Tryz.func60, Tryz.ntmps60
      go_upto_region 2 with fail
      have zq0 := fun d os => cell_regrown y0 d os
      have zq6 := fun d os => cell_regrown y6 d os
      have zq7 := fun d os => cell_regrown y7 d os
      have zq8 := fun d os => cell_regrown y8 d os
      have zq9 := fun d os => cell_regrown y9 d os
      have zq10 := fun d os => cell_regrown y10 d os
      refine wp_region_quiet_below (by kernel_rfl) (by kernel_rfl) ?_
      repeat (go_big_quiet_step (fail))
      refine wpQuiet_nil ?_
      rintro W3 ⟨pp, hpp⟩
      have HB3 := Lib.hid (show Below W.heap.size W W3 by rw [hpp]; exact below_regrown _ _ _)
      obtain ⟨y0, y1, y2, y3, y4, y5, y6, y7, y8, y9, y10, y11, y12, y13, y14⟩ := rcs_cells (HBX.out.below HB3.out HBX.out.lt)
      clear hpp zq0 zq6 zq7 zq8 zq9 zq10
      go_wp2_with fail
      go_ret
      exact ⟨by rw [HFF.out]; rfl, HBW.out.trans (HB3.out.mono HBW.out.size)⟩
    · have e3 : (r.o.k == 3) = false := beq_false_of_ne a3
      by_cases a4 : r.o.k = 4
      · have e4 : (r.o.k == 4) = true := by rw [beq_iff_eq]; exact a4
        have HFF : Hid (F = false) := Lib.hid (by rw [HF.out]; simp [ak, a4])
        clear ak a3 a4
        go_enter Tryz.func60, Tryz.ntmps60
        go_upto_region 2 with fail
        have zq0 := fun d os => cell_regrown y0 d os
        have zq6 := fun d os => cell_regrown y6 d os
        have zq7 := fun d os => cell_regrown y7 d os
        have zq8 := fun d os => cell_regrown y8 d os
        have zq9 := fun d os => cell_regrown y9 d os
        have zq10 := fun d os => cell_regrown y10 d os
        refine wp_region_quiet_below (by kernel_rfl) (by kernel_rfl) ?_
        repeat (go_big_quiet_step (fail))
        refine wpQuiet_nil ?_
        rintro W3 ⟨pp, hpp⟩
        have HB3 := Lib.hid (show Below W.heap.size W W3 by rw [hpp]; exact below_regrown _ _ _)
        obtain ⟨y0, y1, y2, y3, y4, y5, y6, y7, y8, y9, y10, y11, y12, y13, y14⟩ := rcs_cells (HBX.out.below HB3.out HBX.out.lt)
        clear hpp zq0 zq6 zq7 zq8 zq9 zq10
        go_wp2_with fail
        go_ret
        exact ⟨by rw [HFF.out]; rfl, HBW.out.trans (HB3.out.mono HBW.out.size)⟩
      · have e4 : (r.o.k == 4) = false := beq_false_of_ne a4
        cases rb with
        | false =>
          have HFF : Hid (F = false) := Lib.hid (by rw [HF.out]; simp [ak, a3, a4])
          clear ak a3 a4
          go_enter Tryz.func60, Tryz.ntmps60
          go_upto_region 2 with fail
          have zq0 := fun d os => cell_regrown y0 d os
          have zq6 := fun d os => cell_regrown y6 d os
          have zq7 := fun d os => cell_regrown y7 d os
          have zq8 := fun d os => cell_regrown y8 d os
          have zq9 := fun d os => cell_regrown y9 d os
          have zq10 := fun d os => cell_regrown y10 d os
          refine wp_region_quiet_below (by kernel_rfl) (by kernel_rfl) ?_
          repeat (go_big_quiet_step (first | (go_at_call 102; with_reducible exact Calls.regrown_of (HPK.out _)) | (go_at_call 101; with_reducible exact Calls.regrown_of (HRT.out _))))
          refine wpQuiet_nil ?_
          rintro W3 ⟨pp, hpp⟩
          have HB3 := Lib.hid (show Below W.heap.size W W3 by rw [hpp]; exact below_regrown _ _ _)
          obtain ⟨y0, y1, y2, y3, y4, y5, y6, y7, y8, y9, y10, y11, y12, y13, y14⟩ := rcs_cells (HBX.out.below HB3.out HBX.out.lt)
          clear hpp zq0 zq6 zq7 zq8 zq9 zq10
          go_wp2_with fail
          go_ret
          exact ⟨by rw [HFF.out]; rfl, HBW.out.trans (HB3.out.mono HBW.out.size)⟩
        | true =>
          by_cases s0 : 0 ≤ r.o.s
          · have f0 : decide (r.o.s ≥ 0) = true := decide_eq_true (by omega)
            by_cases s1 : r.o.s < 60
            · have f1 : decide (r.o.s < 60) = true := decide_eq_true s1
              have HFF : Hid (F = true) := Lib.hid (by rw [HF.out]; simp [ak, a3, a4, s0, s1])
              clear ak a3 a4 s0 s1
              go_enter Tryz.func60, Tryz.ntmps60
              go_upto_region 2 with fail
              have zq0 := fun d os => cell_regrown y0 d os
              have zq6 := fun d os => cell_regrown y6 d os
              have zq7 := fun d os => cell_regrown y7 d os
              have zq8 := fun d os => cell_regrown y8 d os
              have zq9 := fun d os => cell_regrown y9 d os
              have zq10 := fun d os => cell_regrown y10 d os
              refine wp_region_quiet_below (by kernel_rfl) (by kernel_rfl) ?_
              repeat (go_big_quiet_step (first | (go_at_call 102; with_reducible exact Calls.regrown_of (HPK.out _)) | (go_at_call 101; with_reducible exact Calls.regrown_of (HRT.out _))))
              refine wpQuiet_nil ?_
              rintro W3 ⟨pp, hpp⟩
              have HB3 := Lib.hid (show Below W.heap.size W W3 by rw [hpp]; exact below_regrown _ _ _)
              obtain ⟨y0, y1, y2, y3, y4, y5, y6, y7, y8, y9, y10, y11, y12, y13, y14⟩ := rcs_cells (HBX.out.below HB3.out HBX.out.lt)
              clear hpp zq0 zq6 zq7 zq8 zq9 zq10
              go_wp2_with fail
              go_ret
              exact ⟨by rw [HFF.out]; rfl, HBW.out.trans (HB3.out.mono HBW.out.size)⟩
            · have f1 : decide (r.o.s < 60) = false := decide_eq_false s1
              have HFF : Hid (F = false) := Lib.hid (by rw [HF.out]; simp [ak, a3, a4, s1])
              clear ak a3 a4 s0 s1
              go_enter Tryz.func60, Tryz.ntmps60
              go_upto_region 2 with fail
              have zq0 := fun d os => cell_regrown y0 d os
              have zq6 := fun d os => cell_regrown y6 d os
              have zq7 := fun d os => cell_regrown y7 d os
              have zq8 := fun d os => cell_regrown y8 d os
              have zq9 := fun d os => cell_regrown y9 d os
              have zq10 := fun d os => cell_regrown y10 d os
              refine wp_region_quiet_below (by kernel_rfl) (by kernel_rfl) ?_
              repeat (go_big_quiet_step (first | (go_at_call 102; with_reducible exact Calls.regrown_of (HPK.out _)) | (go_at_call 101; with_reducible exact Calls.regrown_of (HRT.out _))))
              refine wpQuiet_nil ?_
              rintro W3 ⟨pp, hpp⟩
              have HB3 := Lib.hid (show Below W.heap.size W W3 by rw [hpp]; exact below_regrown _ _ _)
              obtain ⟨y0, y1, y2, y3, y4, y5, y6, y7, y8, y9, y10, y11, y12, y13, y14⟩ := rcs_cells (HBX.out.below HB3.out HBX.out.lt)
              clear hpp zq0 zq6 zq7 zq8 zq9 zq10
              go_wp2_with fail
              go_ret
              exact ⟨by rw [HFF.out]; rfl, HBW.out.trans (HB3.out.mono HBW.out.size)⟩
          · have f0 : decide (r.o.s ≥ 0) = false := decide_eq_false (by omega)
            have HFF : Hid (F = false) := Lib.hid (by rw [HF.out]; simp [ak, a3, a4, s0])
            clear ak a3 a4 s0
            go_enter Tryz.func60, Tryz.ntmps60
            go_upto_region 2 with fail
            have zq0 := fun d os => cell_regrown y0 d os
            have zq6 := fun d os => cell_regrown y6 d os
            have zq7 := fun d os => cell_regrown y7 d os
            have zq8 := fun d os => cell_regrown y8 d os
            have zq9 := fun d os => cell_regrown y9 d os
            have zq10 := fun d os => cell_regrown y10 d os
            refine wp_region_quiet_below (by kernel_rfl) (by kernel_rfl) ?_
            repeat (go_big_quiet_step (first | (go_at_call 102; with_reducible exact Calls.regrown_of (HPK.out _)) | (go_at_call 101; with_reducible exact Calls.regrown_of (HRT.out _))))
            refine wpQuiet_nil ?_
            rintro W3 ⟨pp, hpp⟩
            have HB3 := Lib.hid (show Below W.heap.size W W3 by rw [hpp]; exact below_regrown _ _ _)
            obtain ⟨y0, y1, y2, y3, y4, y5, y6, y7, y8, y9, y10, y11, y12, y13, y14⟩ := rcs_cells (HBX.out.below HB3.out HBX.out.lt)
            clear hpp zq0 zq6 zq7 zq8 zq9 zq10
            go_wp2_with fail
            go_ret
            exact ⟨by rw [HFF.out]; rfl, HBW.out.trans (HB3.out.mono HBW.out.size)⟩
end Go.Proofs.YtdhgbkibbileiaaGreat
