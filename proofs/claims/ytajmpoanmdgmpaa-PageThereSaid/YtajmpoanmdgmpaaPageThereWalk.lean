/-
  THE WALK OF PageThere.
-/
import Derived.Test.YtajmpoanmdgmpaaTN
import Derived.Test.YtajmpoanmdgmpaaPG
namespace Go.Proofs.Ytajmpoanmdgmpaa.pageThere
open Go.RowKit

set_option maxHeartbeats 8000000 in
set_option maxRecDepth 100000 in
theorem walked (p : PV) (op : OV) (w : World) (hp : p.In w All All) (ho : op.In w All) : Calls Try.prog 10 #[p.agg, op.agg] w fun e w' => e = .returned (.bool true) ∧ Below w.heap.size w w' := by
  obtain ⟨W1, hW1, hBW1, hbx1, hsz1⟩ := box_page w p
  obtain ⟨W, hW, hBW2, hbx2, hsz2⟩ := box_op W1 op
  have hBW : Below w.heap.size w W := hBW1.trans (hBW2.mono hBW1.size)
  have HP := Lib.hid (hp.below hBW)
  have HO := Lib.hid (ho.below hBW)
  have HBW := Lib.hid hBW
  have hbxp := hbx1.below hBW2 (by omega)
  have HBXP := Lib.hid hbxp
  have HBXO := Lib.hid hbx2
  have HLO := Lib.hid (fun W' (hW' : Below W.heap.size W W') => long_any p W' ((hp.below hBW).below hW'))
  have HAL := Lib.hid (fun W' => alive_any W')
  obtain ⟨y0, y1, y2, y3⟩ := pcs_cells hbxp
  obtain ⟨t0, t1, t2, t3⟩ := ocs_cells hbx2
  obtain ⟨pk, ps, px, A, n, c, l⟩ := p
  obtain ⟨ok, os, ot, oA, om, oc, od⟩ := op
  simp only at hW1 hW y0 y1 y2 y3 t0 t1 t2 t3
  simp only [PV.agg, OV.agg] at HLO ⊢
  clear hp ho hBW hbxp hbx1 hbx2 hsz1 hsz2 hBW1 hBW2
  go_enter Try.func10, Try.ntmps10
  go_wp2_with fail
  refine (HLO.out W (Below.refl _ _)).mono ?_
  rintro e w1 ⟨b, rfl, hb1, hfew⟩
  have HB1 := Lib.hid hb1
  obtain ⟨y0, y1, y2, y3⟩ := pcs_cells (HBXP.out.below hb1 HBXP.out.lt)
  obtain ⟨t0, t1, t2, t3⟩ := ocs_cells (HBXO.out.below hb1 HBXO.out.lt)
  simp only at y0 y1 y2 y3 t0 t1 t2 t3
  clear hb1
  cases b with
  | true =>
    clear hfew
    go_wp2_with fail
    refine (HAL.out _).mono ?_
    rintro e wz ⟨rfl, hbz⟩
    have HBZ := Lib.hid (HB1.out.trans (hbz.mono HB1.out.size))
    clear hbz
    go_wp2_with fail
    go_ret
    exact ⟨rfl, HBW.out.trans (HBZ.out.mono HBW.out.size)⟩
  | false =>
    have HF := Lib.hid (hfew rfl)
    clear hfew
    by_cases hom : 2000 < om
    · have d1 : decide ((om : Int) > 2000) = true := decide_eq_true (by omega)
      have d2 : decide (2000 < om) = true := decide_eq_true hom
      clear hom
      go_wp2_with fail
      refine (HAL.out _).mono ?_
      rintro e wz ⟨rfl, hbz⟩
      have HBZ := Lib.hid (HB1.out.trans (hbz.mono HB1.out.size))
      clear hbz
      go_wp2_with fail
      go_ret
      exact ⟨rfl, HBW.out.trans (HBZ.out.mono HBW.out.size)⟩
    · have d1 : decide ((om : Int) > 2000) = false := decide_eq_false (by omega)
      have d2 : decide (2000 < om) = false := decide_eq_false hom
      have HDO := Lib.hid (Do_any w1 ⟨pk, ps, px, A, n, c, l⟩ (HP.out.below HB1.out) HF.out ⟨ok, os, ot, oA, om, oc, od⟩ (HO.out.below HB1.out) (by simp only; omega))
      have HODL : Hid (od.length = om) := HO.out.b.len
      obtain ⟨R, hR⟩ : ∃ R, R = DoM pk (⟨pk, ps, px, A, n, c, l⟩ : PV).es ok os ot om od := ⟨_, rfl⟩
      simp only [PV.agg, OV.agg] at HDO
      rw [← hR] at HDO
      have HR := Lib.hid hR
      clear hR hom
      go_wp2_with fail
      refine HDO.out.mono ?_
      rintro e w2 ⟨q, S, T, rfl, hpo, hS, hT, hb2, hq0, hqz⟩
      have HB2 := Lib.hid (HB1.out.trans (hb2.mono HB1.out.size))
      obtain ⟨W3, hW3, hB3, hbx3, hsz3⟩ := box_page w2 q
      have HB3 := Lib.hid (HB2.out.trans (hB3.mono HB2.out.size))
      have HBXQ := Lib.hid hbx3
      have HQI := Lib.hid (hpo.In.all.below hB3)
      obtain ⟨y0, y1, y2, y3⟩ := pcs_cells (HBXP.out.below HB3.out HBXP.out.lt)
      obtain ⟨t0, t1, t2, t3⟩ := ocs_cells (HBXO.out.below HB3.out HBXO.out.lt)
      have HUN := Lib.hid (undo_any pk ⟨ok, os, ot, oA, om, oc, od⟩ W3 (HO.out.below HB3.out))
      obtain ⟨u, hu⟩ : ∃ u, u = undoR pk ok os ot om od := ⟨_, rfl⟩
      simp only [OV.agg] at HUN
      rw [← hu] at HUN
      have HU := Lib.hid hu
      obtain ⟨cR, hcR⟩ : ∃ cR, cR = R.1 := ⟨_, rfl⟩
      rw [← hcR]
      have HCR := Lib.hid hcR
      have HQ0 := Lib.hid hq0
      have HQZ := Lib.hid hqz
      clear hpo hS hT hb2 hB3 hbx3 hsz3 hu hcR hq0 hqz
      have HQA := Lib.hid (show q.agg = .agg #[.int .i64 q.k, .int .u64 (q.s : Int), .int .u32 (q.x : Int), .slice q.A q.n q.c] from rfl)
      rw [HQA.out]
      simp only at y0 y1 y2 y3 t0 t1 t2 t3
      go_wp2_with fail
      refine HUN.out.mono ?_
      rintro e w4 ⟨A4, c4, rfl, ho4, hb4⟩
      have HR4 := Lib.hid ho4.reads
      have HB4 := Lib.hid (HB3.out.trans (hb4.mono HB3.out.size))
      obtain ⟨W5, hW5, hB5, hbx5, hsz5⟩ := box_op w4 ⟨u.k, u.s, 0, A4, u.d.length, c4, u.d⟩
      have HBXX := Lib.hid hbx5
      have HB45 := Lib.hid hB5
      have HB5 := Lib.hid (HB4.out.trans (hB5.mono HB4.out.size))
      have HB35 := Lib.hid (hb4.trans (hB5.mono hb4.size))
      obtain ⟨y0, y1, y2, y3⟩ := pcs_cells (HBXP.out.below HB5.out HBXP.out.lt)
      obtain ⟨t0, t1, t2, t3⟩ := ocs_cells (HBXO.out.below HB5.out HBXO.out.lt)
      obtain ⟨z0, z1, z2, z3⟩ := pcs_cells (HBXQ.out.below HB35.out HBXQ.out.lt)
      obtain ⟨x0, x1, x2, x3⟩ := ocs_cells hbx5
      clear ho4 hb4 hB5 hbx5 hsz5
      simp only at y0 y1 y2 y3 t0 t1 t2 t3 hW5 x0 x1 x2 x3
      simp only [Int.ofNat_zero] at hW5 x2
      obtain ⟨uk, us, ud, ue⟩ := u
      simp only at hW5 x0 x1 x2 x3
      by_cases hc0 : cR = 0
      · have k0 : (cR != 0) = false := bne_eq_false_iff_eq.2 hc0
        by_cases hok : ok = 1 ∨ ok = 2
        · have hes : R = (0, R.2) := by rw [← hc0, HCR.out]
          have hdom := HR.out.symm.trans hes
          obtain ⟨m1, m2, m3⟩ := there_math hdom HODL.out hok
          rw [← HU.out] at m1 m2
          simp only at m1 m2
          have hq := HQ0.out (HCR.out.symm.trans hc0)
          have hmay1 := (DoM_parts m2).1
          have hqf : Few q := few_of HQI.out (by rw [hq.1]; have := (may_iff.1 hmay1).1; omega) (fun cc hcc => by
            rw [hq.1] at hcc
            have h9 := List.all_eq_true.1 (may_iff.1 hmay1).2.1 cc hcc
            unfold cmay at h9
            split at h9
            · simp only [Bool.and_eq_true, decide_eq_true_eq] at h9; omega
            · simp only [Bool.and_eq_true, beq_iff_eq] at h9; omega)
          obtain ⟨A4', c4', e4, hmc4, hnz4, hr4⟩ := HR4.out
          injection e4 with e4 _ e5
          subst e4 e5
          have hright := (DoM_parts m2).2.1
          have hm180 := (right_parts hright).2.2.2
          have hrng := right_parts hright
          have husb : us = os := by
            have h9 := HU.out
            unfold undoR at h9
            split at h9
            · injection h9
            · rename_i hn; exact absurd ⟨(DoM_parts hdom).2.1, hok⟩ hn
          have hxin : OV.In W5 All ⟨uk, us, 0, A4, ud.length, c4, ud⟩ := ⟨(hr4.mono fun _ _ _ => trivial).keep (Fr.of_below HB45.out No) fun _ _ hn => hn, by simp only; omega, by simp only; omega, by simp only; rw [husb]; exact HO.out.s1, by simp only; rw [husb]; exact HO.out.s2, by simp only; omega, hmc4, by simp only; omega, hnz4⟩
          have hdo2 := Do_any W5 q (HQI.out.below HB35.out) hqf ⟨uk, us, 0, A4, ud.length, c4, ud⟩ hxin (by simp only; omega)
          have hqk : q.k = pk := hq.2.1
          rw [hq.1, hqk] at hdo2
          simp only at hdo2
          rw [m2] at hdo2
          simp only [PV.agg, OV.agg, Int.ofNat_zero] at hdo2
          have HDO2 := Lib.hid hdo2
          have HQEQ := Lib.hid hq
          have HNE := Lib.hid m3
          have HM1 := Lib.hid m1
          have k1 : (ok != 1 && ok != 2) = false := by
            rcases hok with h | h <;> simp [h]
          have hok1 : (ok != 1) = true → (ok != 2) = false := fun h => by
            rcases hok with h2 | h2
            · rw [h2] at h; simp at h
            · rw [h2]; rfl
          clear hes hdom m2 m3 hq hmay1 hqf hmc4 hnz4 hr4 hright hm180 hrng husb hxin hdo2 hqk m1 k1
          obtain ⟨kb, hkb⟩ : ∃ kb, kb = (ok != 1) := ⟨_, rfl⟩
          rw [← hkb] at hok1
          have hkb' : (ok != 1) = kb := hkb.symm
          have HOK := Lib.hid hok
          clear hkb hok hc0
          have hue : ue = 0 := HM1.out
          subst hue
          cases kb with
          | false =>
            clear hok1
            go_wp2_with fail
            refine HDO2.out.mono ?_
            rintro e w6 ⟨r, S2, T2, rfl, hpo6, _, _, hb6, hr0, _⟩
            have hr := hr0 rfl
            obtain ⟨W7, hW7, hB7, hbx7, hsz7⟩ := box_page w6 r
            have HB57 := Lib.hid (hb6.trans (hB7.mono hb6.size))
            have HB7 := Lib.hid (HB5.out.trans (HB57.out.mono HB5.out.size))
            have HRI := Lib.hid (hpo6.In.all.below hB7)
            have HBXR := Lib.hid hbx7
            have hsame : sameP r ⟨pk, ps, px, A, n, c, l⟩ = true := by
              unfold sameP
              rw [hr.1, hr.2.1, hr.2.2.1, hr.2.2.2, HQEQ.out.2.1, HQEQ.out.2.2.1, HQEQ.out.2.2.2]
              simp
            have hdiff : sameP q ⟨pk, ps, px, A, n, c, l⟩ = false := by
              unfold sameP
              rw [decide_eq_false (show ¬ q.es = (⟨pk, ps, px, A, n, c, l⟩ : PV).es by rw [HQEQ.out.1]; exact HNE.out)]
              simp
            have hsa := same_any r ⟨pk, ps, px, A, n, c, l⟩ W7 HRI.out (HP.out.below HB7.out)
            rw [hsame] at hsa
            have HSA := Lib.hid hsa
            have HSQ := Lib.hid (fun (W' : World) (hW' : Below W.heap.size W W') (hq' : q.In W' All All) => same_any q ⟨pk, ps, px, A, n, c, l⟩ W' hq' (HP.out.below hW'))
            rw [hdiff] at HSQ
            have HQ7 := Lib.hid ((HQI.out.below HB35.out).below HB57.out)
            obtain ⟨y0, y1, y2, y3⟩ := pcs_cells (HBXP.out.below HB7.out HBXP.out.lt)
            obtain ⟨z0, z1, z2, z3⟩ := pcs_cells ((HBXQ.out.below HB35.out HBXQ.out.lt).below HB57.out (HBXQ.out.below HB35.out HBXQ.out.lt).lt)
            obtain ⟨s0, s1, s2, s3⟩ := pcs_cells hbx7
            have HZQ := Lib.hid ((HBXQ.out.below HB35.out HBXQ.out.lt).below HB57.out (HBXQ.out.below HB35.out HBXQ.out.lt).lt)
            have HRA := Lib.hid (show r.agg = .agg #[.int .i64 r.k, .int .u64 (r.s : Int), .int .u32 (r.x : Int), .slice r.A r.n r.c] from rfl)
            rw [HRA.out]
            simp only [PV.agg] at HSA HSQ
            simp only at y0 y1 y2 y3
            clear hpo6 hb6 hr0 hr hB7 hbx7 hsz7 hsame hdiff hsa
            go_wp2_with fail
            refine HSA.out.mono ?_
            rintro e w8 ⟨rfl, hb8⟩
            have HB8 := Lib.hid (HB7.out.trans (hb8.mono HB7.out.size))
            obtain ⟨y0, y1, y2, y3⟩ := pcs_cells (HBXP.out.below HB8.out HBXP.out.lt)
            obtain ⟨z0, z1, z2, z3⟩ := pcs_cells (HZQ.out.below hb8 HZQ.out.lt)
            simp only at y0 y1 y2 y3
            have HQ8 := Lib.hid (HQ7.out.below hb8)
            clear hb8
            go_wp2_with fail
            refine (HSQ.out _ HB8.out HQ8.out).mono ?_
            rintro e w9 ⟨rfl, hb9⟩
            have HB9 := Lib.hid (HB8.out.trans (hb9.mono HB8.out.size))
            clear hb9
            go_wp2_with fail
            refine (HAL.out _).mono ?_
            rintro e wz ⟨rfl, hbz⟩
            have HBZ := Lib.hid (HB9.out.trans (hbz.mono HB9.out.size))
            clear hbz
            go_wp2_with fail
            go_ret
            exact ⟨rfl, HBW.out.trans (HBZ.out.mono HBW.out.size)⟩
          | true =>
            have hok2 := hok1 rfl
            clear hok1
            go_wp2_with fail
            refine HDO2.out.mono ?_
            rintro e w6 ⟨r, S2, T2, rfl, hpo6, _, _, hb6, hr0, _⟩
            have hr := hr0 rfl
            obtain ⟨W7, hW7, hB7, hbx7, hsz7⟩ := box_page w6 r
            have HB57 := Lib.hid (hb6.trans (hB7.mono hb6.size))
            have HB7 := Lib.hid (HB5.out.trans (HB57.out.mono HB5.out.size))
            have HRI := Lib.hid (hpo6.In.all.below hB7)
            have HBXR := Lib.hid hbx7
            have hsame : sameP r ⟨pk, ps, px, A, n, c, l⟩ = true := by
              unfold sameP
              rw [hr.1, hr.2.1, hr.2.2.1, hr.2.2.2, HQEQ.out.2.1, HQEQ.out.2.2.1, HQEQ.out.2.2.2]
              simp
            have hdiff : sameP q ⟨pk, ps, px, A, n, c, l⟩ = false := by
              unfold sameP
              rw [decide_eq_false (show ¬ q.es = (⟨pk, ps, px, A, n, c, l⟩ : PV).es by rw [HQEQ.out.1]; exact HNE.out)]
              simp
            have hsa := same_any r ⟨pk, ps, px, A, n, c, l⟩ W7 HRI.out (HP.out.below HB7.out)
            rw [hsame] at hsa
            have HSA := Lib.hid hsa
            have HSQ := Lib.hid (fun (W' : World) (hW' : Below W.heap.size W W') (hq' : q.In W' All All) => same_any q ⟨pk, ps, px, A, n, c, l⟩ W' hq' (HP.out.below hW'))
            rw [hdiff] at HSQ
            have HQ7 := Lib.hid ((HQI.out.below HB35.out).below HB57.out)
            obtain ⟨y0, y1, y2, y3⟩ := pcs_cells (HBXP.out.below HB7.out HBXP.out.lt)
            obtain ⟨z0, z1, z2, z3⟩ := pcs_cells ((HBXQ.out.below HB35.out HBXQ.out.lt).below HB57.out (HBXQ.out.below HB35.out HBXQ.out.lt).lt)
            obtain ⟨s0, s1, s2, s3⟩ := pcs_cells hbx7
            have HZQ := Lib.hid ((HBXQ.out.below HB35.out HBXQ.out.lt).below HB57.out (HBXQ.out.below HB35.out HBXQ.out.lt).lt)
            have HRA := Lib.hid (show r.agg = .agg #[.int .i64 r.k, .int .u64 (r.s : Int), .int .u32 (r.x : Int), .slice r.A r.n r.c] from rfl)
            rw [HRA.out]
            simp only [PV.agg] at HSA HSQ
            simp only at y0 y1 y2 y3
            clear hpo6 hb6 hr0 hr hB7 hbx7 hsz7 hsame hdiff hsa
            go_wp2_with fail
            refine HSA.out.mono ?_
            rintro e w8 ⟨rfl, hb8⟩
            have HB8 := Lib.hid (HB7.out.trans (hb8.mono HB7.out.size))
            obtain ⟨y0, y1, y2, y3⟩ := pcs_cells (HBXP.out.below HB8.out HBXP.out.lt)
            obtain ⟨z0, z1, z2, z3⟩ := pcs_cells (HZQ.out.below hb8 HZQ.out.lt)
            simp only at y0 y1 y2 y3
            have HQ8 := Lib.hid (HQ7.out.below hb8)
            clear hb8
            go_wp2_with fail
            refine (HSQ.out _ HB8.out HQ8.out).mono ?_
            rintro e w9 ⟨rfl, hb9⟩
            have HB9 := Lib.hid (HB8.out.trans (hb9.mono HB8.out.size))
            clear hb9
            go_wp2_with fail
            refine (HAL.out _).mono ?_
            rintro e wz ⟨rfl, hbz⟩
            have HBZ := Lib.hid (HB9.out.trans (hbz.mono HB9.out.size))
            clear hbz
            go_wp2_with fail
            go_ret
            exact ⟨rfl, HBW.out.trans (HBZ.out.mono HBW.out.size)⟩
        · have ne1 : (ok != 1) = true := bne_iff_ne.2 fun h => hok (Or.inl h)
          have ne2 : (ok != 2) = true := bne_iff_ne.2 fun h => hok (Or.inr h)
          clear hok hc0
          go_wp2_with fail
          refine (HAL.out _).mono ?_
          rintro e wz ⟨rfl, hbz⟩
          have HBZ := Lib.hid (HB5.out.trans (hbz.mono HB5.out.size))
          clear hbz
          go_wp2_with fail
          go_ret
          exact ⟨rfl, HBW.out.trans (HBZ.out.mono HBW.out.size)⟩
      · have k0 : (cR != 0) = true := bne_iff_ne.2 hc0
        clear hc0
        go_wp2_with fail
        refine (HAL.out _).mono ?_
        rintro e wz ⟨rfl, hbz⟩
        have HBZ := Lib.hid (HB5.out.trans (hbz.mono HB5.out.size))
        clear hbz
        go_wp2_with fail
        go_ret
        exact ⟨rfl, HBW.out.trans (HBZ.out.mono HBW.out.size)⟩
end Go.Proofs.Ytajmpoanmdgmpaa.pageThere
