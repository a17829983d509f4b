/-
  THE WALK OF PageKeeps.
-/
import Derived.Test.YtajmpoanmdgmpaaTS
import Derived.Test.YtajmpoanmdgmpaaPG
namespace Go.Proofs.Ytajmpoanmdgmpaa.pageKeeps
open Go.RowKit

attribute [local go_sem high] run_neqL run_eqL
theorem store3 {G : World} {g : Nat} {u0 k0 s0 : Value} (hb : Blk G g 58 #[u0, k0, s0]) (u k s : Value) :
    Blk (((G.setCell ⟨g, 0, none⟩ u).setCell ⟨g, 1, none⟩ k).setCell ⟨g, 2, none⟩ s) g 58 #[u, k, s] ∧ Fr G (((G.setCell ⟨g, 0, none⟩ u).setCell ⟨g, 1, none⟩ k).setCell ⟨g, 2, none⟩ s) (fun b => b = g) :=
  ⟨((hb.set_ 0 _).set_ 1 _).set_ 2 _, fr_set (fr_set (fr_set (Fr.refl _ _) _ _) _ _) _ _⟩
theorem atC_rb {w : World} {l : List CV} {d : List Nat} (h : ∀ x ∈ l, x.In w All) : RB w All (atC l d).A (atC l d).m (atC l d).d := by
  unfold atC
  cases hf : l.find? (fun x => decide (x.d = d)) with
  | none => exact ⟨rfl, by simp [CV.none_], fun h => absurd h (by simp [CV.none_])⟩
  | some x => exact (h x (List.mem_of_find?_eq_some hf)).b
set_option maxHeartbeats 100000000 in
set_option maxRecDepth 100000 in
theorem walked (p : PV) (op : OV) (w : World) (hp : p.In w All All) (ho : op.In w All) : Calls Try.prog 11 #[p.agg, op.agg] w fun e w' => e = .returned (.bool true) ∧ Below w.heap.size w w' := by
  obtain ⟨W1, hW1, hBW1, hbx1, hsz1⟩ := box_page w p
  obtain ⟨W, hW, hBW2, hbx2, hsz2⟩ := box_op W1 op
  have hBW : Below w.heap.size w W := hBW1.trans (hBW2.mono hBW1.size)
  have HP := Lib.hid (hp.below hBW)
  have HO := Lib.hid (ho.below hBW)
  have HBW := Lib.hid hBW
  have hbxp := hbx1.below hBW2 (by omega)
  have HBXP := Lib.hid hbxp
  have HBXO := Lib.hid hbx2
  have HLO := Lib.hid (fun W' (hW' : Below W.heap.size W W') => long_any p W' ((hp.below hBW).below hW'))
  have HAL := Lib.hid (fun W' => alive_any W')
  have HLN : Hid (p.es.length = p.n) := hp.len
  obtain ⟨y0, y1, y2, y3⟩ := pcs_cells hbxp
  obtain ⟨t0, t1, t2, t3⟩ := ocs_cells hbx2
  obtain ⟨pk, ps, px, A, n, c, l⟩ := p
  obtain ⟨ok, os, ot, oA, om, oc, od⟩ := op
  simp only at hW1 hW y0 y1 y2 y3 t0 t1 t2 t3
  simp only [PV.agg, OV.agg] at HLO ⊢
  clear hp ho hBW hbxp hbx1 hbx2 hsz1 hsz2 hBW1 hBW2
  go_enter Try.func11, Try.ntmps11
  go_wp2_with fail
  refine (HLO.out W (Below.refl _ _)).mono ?_
  rintro e w1 ⟨b, rfl, hb1, hfew⟩
  have HB1 := Lib.hid hb1
  obtain ⟨y0, y1, y2, y3⟩ := pcs_cells (HBXP.out.below hb1 HBXP.out.lt)
  obtain ⟨t0, t1, t2, t3⟩ := ocs_cells (HBXO.out.below hb1 HBXO.out.lt)
  simp only at y0 y1 y2 y3 t0 t1 t2 t3
  clear hb1
  cases b with
  | true =>
    clear hfew
    go_wp2_with fail
    refine (HAL.out _).mono ?_
    rintro e wz ⟨rfl, hbz⟩
    have HBZ := Lib.hid (HB1.out.trans (hbz.mono HB1.out.size))
    clear hbz
    go_wp2_with fail
    go_ret
    exact ⟨rfl, HBW.out.trans (HBZ.out.mono HBW.out.size)⟩
  | false =>
    have HF := Lib.hid (hfew rfl)
    have hn3 : n ≤ 300 := HF.out.n
    clear hfew
    by_cases hom : 2000 < om
    · have d1 : decide ((om : Int) > 2000) = true := decide_eq_true (by omega)
      have d2 : decide (2000 < om) = true := decide_eq_true hom
      clear hom
      go_wp2_with fail
      refine (HAL.out _).mono ?_
      rintro e wz ⟨rfl, hbz⟩
      have HBZ := Lib.hid (HB1.out.trans (hbz.mono HB1.out.size))
      clear hbz
      go_wp2_with fail
      go_ret
      exact ⟨rfl, HBW.out.trans (HBZ.out.mono HBW.out.size)⟩
    · have d1 : decide ((om : Int) > 2000) = false := decide_eq_false (by omega)
      have d2 : decide (2000 < om) = false := decide_eq_false hom
      have HDO := Lib.hid (Do_any w1 ⟨pk, ps, px, A, n, c, l⟩ (HP.out.below HB1.out) HF.out ⟨ok, os, ot, oA, om, oc, od⟩ (HO.out.below HB1.out) (by simp only; omega))
      have HODL : Hid (od.length = om) := HO.out.b.len
      obtain ⟨R, hR⟩ : ∃ R, R = DoM pk (⟨pk, ps, px, A, n, c, l⟩ : PV).es ok os ot om od := ⟨_, rfl⟩
      simp only [PV.agg, OV.agg] at HDO
      rw [← hR] at HDO
      have HR := Lib.hid hR
      clear hR hom
      go_wp2_with fail
      refine HDO.out.mono ?_
      rintro e w2 ⟨q, S, T, rfl, hpo, hS, hT, hb2, hq0, hqz⟩
      have HB2 := Lib.hid (HB1.out.trans (hb2.mono HB1.out.size))
      obtain ⟨W3, hW3, hB3, hbx3, hsz3⟩ := box_page w2 q
      have HB3 := Lib.hid (HB2.out.trans (hB3.mono HB2.out.size))
      have HBXQ := Lib.hid hbx3
      have HQI := Lib.hid (hpo.In.all.below hB3)
      have HBWW := Lib.hid (HBW.out.trans (HB3.out.mono HBW.out.size))
      have HPI := Lib.hid (HP.out.below HB3.out)
      have HOI := Lib.hid (HO.out.below HB3.out)
      have HBP := Lib.hid (HBXP.out.below HB3.out HBXP.out.lt)
      have HBO := Lib.hid (HBXO.out.below HB3.out HBXO.out.lt)
      obtain ⟨y0, y1, y2, y3⟩ := pcs_cells HBP.out
      obtain ⟨t0, t1, t2, t3⟩ := ocs_cells HBO.out
      obtain ⟨z0, z1, z2, z3⟩ := pcs_cells hbx3
      obtain ⟨cR, hcR⟩ : ∃ cR, cR = R.1 := ⟨_, rfl⟩
      rw [← hcR]
      have HCR := Lib.hid hcR
      have HQ0 := Lib.hid hq0
      have HQZ := Lib.hid hqz
      clear hpo hS hT hb2 hB3 hbx3 hsz3 hcR hq0 hqz
      by_cases hc0 : cR = 0
      · have k0 : (cR != 0) = false := bne_eq_false_iff_eq.2 hc0
        have hes : R = (0, R.2) := by rw [← hc0, HCR.out]
        have hdom := HR.out.symm.trans hes
        have hq := HQ0.out (HCR.out.symm.trans hc0)
        obtain ⟨qk, qs, qx, qA, qn, qc, ql⟩ := q
        simp only at hq z0 z1 z2 z3 hW3
        obtain ⟨hq1, rfl, rfl, rfl⟩ := hq
        rw [← hq1] at hdom
        have HDOM := Lib.hid hdom
        obtain ⟨hm1, hm2⟩ := do_may hdom HODL.out
        have HM1 := Lib.hid hm1
        simp only [PV.es, List.length_map] at hm2
        have hqln : ql.length = qn := HQI.out.r.1
        have hpln : l.length = n := HPI.out.r.1
        rw [hqln, hpln] at hm2
        have HFQ : Hid (Few ⟨qk, qs, qx, qA, qn, qc, ql⟩) := Lib.hid (few_of HQI.out (by have := (may_iff.1 hm1).1; omega) (fun cc hcc => by
            have h9 := List.all_eq_true.1 (may_iff.1 hm1).2.1 cc hcc
            unfold cmay at h9
            split at h9
            · simp only [Bool.and_eq_true, decide_eq_true_eq] at h9; omega
            · simp only [Bool.and_eq_true, beq_iff_eq] at h9; omega))
        have hmq := may_any ⟨qk, qs, qx, qA, qn, qc, ql⟩ W3 HQI.out HFQ.out
        simp only at hmq
        rw [hm1] at hmq
        have HMQ := Lib.hid hmq
        simp only [PV.agg] at HMQ ⊢
        have n0 : (qk != qk) = false := by simp
        have n1 : ((qs : Int) != (qs : Int)) = false := by simp
        have n2 : ((qx : Int) != (qx : Int)) = false := by simp
        have hk12 : qk = 1 ∨ qk = 2 := (right_parts (DoM_parts hdom).2.1).1
        have hqn3 : qn ≤ 301 := by omega
        clear hdom hm1 hmq hes hq1 hc0
        go_wp2_with fail
        refine HMQ.out.mono ?_
        rintro e w4 ⟨rfl, hb4⟩
        have HB4 := Lib.hid hb4
        obtain ⟨y0, y1, y2, y3⟩ := pcs_cells (HBP.out.below hb4 HBP.out.lt)
        obtain ⟨t0, t1, t2, t3⟩ := ocs_cells (HBO.out.below hb4 HBO.out.lt)
        obtain ⟨z0, z1, z2, z3⟩ := pcs_cells (HBXQ.out.below hb4 HBXQ.out.lt)
        simp only at y0 y1 y2 y3 t0 t1 t2 t3 z0 z1 z2 z3
        clear hb4
        have hle1 : decide ((qn : Int) - (n : Int) ≤ 1) = true := decide_eq_true (by omega)
        have hle2 : IntKind.i64.wrap ((qn : Int) - (n : Int)) = (qn : Int) - (n : Int) := IntWalk.i64_in _ (by omega)
        obtain ⟨M, hM⟩ : ∃ M, M = max n qn := ⟨_, rfl⟩
        have hM1 : max (n : Int) (qn : Int) = (M : Int) := by omega
        have HMM := Lib.hid hM
        clear hM
        go_wp2_with fail
        go_loopw [7] (fun i wr => ∃ j : Nat, j ≤ M ∧ i = .int .i64 (j : Int) ∧ Below W3.heap.size W3 wr) (fun i _ => M - (intOf i).toNat)
        case atStart => exact ⟨0, by omega, rfl, HB4.out⟩
        case round =>
          obtain ⟨j, hj, rfl, hbel⟩ := hrel
          have HB5 := Lib.hid hbel
          obtain ⟨y0, y1, y2, y3⟩ := pcs_cells (HBP.out.below hbel HBP.out.lt)
          obtain ⟨t0, t1, t2, t3⟩ := ocs_cells (HBO.out.below hbel HBO.out.lt)
          obtain ⟨z0, z1, z2, z3⟩ := pcs_cells (HBXQ.out.below hbel HBXQ.out.lt)
          simp only at y0 y1 y2 y3 t0 t1 t2 t3 z0 z1 z2 z3
          clear hbel
          by_cases hlt : j < M
          · have c1 : decide ((j : Int) < (M : Int)) = true := decide_eq_true (by omega)
            have c1b : decide (j < M) = true := decide_eq_true hlt
            have hWj : IntKind.i64.wrap ((j : Int) + 1) = ((j + 1 : Nat) : Int) := by rw [IntWalk.i64_in _ (by omega)]; omega
            go_upto_region 12 with fail
            generalize hG : ((wr.alloc (.cells #[Value.bool false, Value.int IntKind.u32 0, Value.slice none 0 0] 58)).alloc (.cells #[Value.bool false, Value.int IntKind.u32 0, Value.slice none 0 0] 58)) = G
            have HA0 : Hid (Blk G wr.heap.size 58 #[Value.bool false, Value.int IntKind.u32 0, Value.slice none 0 0]) := by rw [← hG]; exact Lib.hid ((Blk.new wr 58 _).alloc _)
            have HC0 : Hid (Blk G (wr.heap.size + 1) 58 #[Value.bool false, Value.int IntKind.u32 0, Value.slice none 0 0]) := by rw [← hG]; exact Lib.hid (by have h9 := Blk.new (wr.alloc (.cells #[Value.bool false, Value.int IntKind.u32 0, Value.slice none 0 0] 58)) 58 #[Value.bool false, Value.int IntKind.u32 0, Value.slice none 0 0]; simpa using h9)
            have HG0 : Hid (Below W3.heap.size W3 G) := by rw [← hG]; exact Lib.hid ((HB5.out.alloc HB5.out.size _).alloc (by have := HB5.out.size; simp; omega) _)
            have HSZ : Hid (W3.heap.size ≤ wr.heap.size) := Lib.hid HB5.out.size
            clear hG
            obtain ⟨y0, y1, y2, y3⟩ := pcs_cells (HBP.out.below HG0.out HBP.out.lt)
            obtain ⟨t0, t1, t2, t3⟩ := ocs_cells (HBO.out.below HG0.out HBO.out.lt)
            obtain ⟨z0, z1, z2, z3⟩ := pcs_cells (HBXQ.out.below HG0.out HBXQ.out.lt)
            simp only at y0 y1 y2 y3 t0 t1 t2 t3 z0 z1 z2 z3
            have a0 := HA0.out.cell 0
            have a1 := HA0.out.cell 1
            have a2 := HA0.out.cell 2
            have af0 := HA0.out.frozen 0
            have af1 := HA0.out.frozen 1
            have af2 := HA0.out.frozen 2
            simp only [List.getElem?_toArray, List.getElem?_cons_zero, List.getElem?_cons_succ] at a0 a1 a2
            have e0 := HC0.out.cell 0
            have e1 := HC0.out.cell 1
            have e2 := HC0.out.cell 2
            have ef0 := HC0.out.frozen 0
            have ef1 := HC0.out.frozen 1
            have ef2 := HC0.out.frozen 2
            simp only [List.getElem?_toArray, List.getElem?_cons_zero, List.getElem?_cons_succ] at e0 e1 e2

            by_cases hjn : j < n
            · obtain ⟨g, o, x, rfl, hg, _, hx, hxi, b0, b1, b2⟩ := (HPI.out.r.below HG0.out).at_ hjn
              have HX := Lib.hid (es_at hx)
              have HLP := Lib.hid hx
              have HXI := Lib.hid hxi
              obtain ⟨u, kk, xA, m, xc, d⟩ := x
              simp only at b0 b1 b2
              have cj : decide ((j : Int) < (n : Int)) = true := decide_eq_true (by omega)
              have cj2 : (j : Int) < (n : Int) := by omega
              clear hx hxi
              obtain ⟨G1, hG1⟩ : ∃ G1, (((G.setCell ⟨wr.heap.size, 0, none⟩ (.bool u)).setCell ⟨wr.heap.size, 1, none⟩ (.int .u32 (kk : Int))).setCell ⟨wr.heap.size, 2, none⟩ (.slice xA m xc)) = G1 := ⟨_, rfl⟩
              have hst := store3 HA0.out (.bool u) (.int .u32 (kk : Int)) (.slice xA m xc)
              rw [hG1] at hst
              have HA1 := Lib.hid hst.1
              have HC1 := Lib.hid (HC0.out.keep hst.2 (by omega))
              have HG1 := Lib.hid (HG0.out.trans (hst.2.below (fun b hb => by have := HSZ.out; omega) HG0.out.size))
              clear hst
              obtain ⟨y0, y1, y2, y3⟩ := pcs_cells (HBP.out.below HG1.out HBP.out.lt)
              obtain ⟨t0, t1, t2, t3⟩ := ocs_cells (HBO.out.below HG1.out HBO.out.lt)
              obtain ⟨z0, z1, z2, z3⟩ := pcs_cells (HBXQ.out.below HG1.out HBXQ.out.lt)
              simp only at y0 y1 y2 y3 t0 t1 t2 t3 z0 z1 z2 z3
              have a0 := HA1.out.cell 0
              have a1 := HA1.out.cell 1
              have a2 := HA1.out.cell 2
              have af0 := HA1.out.frozen 0
              have af1 := HA1.out.frozen 1
              have af2 := HA1.out.frozen 2
              simp only [List.getElem?_toArray, List.getElem?_cons_zero, List.getElem?_cons_succ] at a0 a1 a2
              have e0 := HC1.out.cell 0
              have e1 := HC1.out.cell 1
              have e2 := HC1.out.cell 2
              have ef0 := HC1.out.frozen 0
              have ef1 := HC1.out.frozen 1
              have ef2 := HC1.out.frozen 2
              simp only [List.getElem?_toArray, List.getElem?_cons_zero, List.getElem?_cons_succ] at e0 e1 e2
              by_cases hjq : j < qn
              · obtain ⟨g', o', y, rfl, hg', _, hy, hyi, v0, v1, v2⟩ := (HQI.out.r.below HG1.out).at_ hjq
                have HY := Lib.hid (es_at hy)
                have HLQ := Lib.hid hy
                have HYI := Lib.hid hyi
                obtain ⟨yu, yk, yA, ym, yc, yd⟩ := y
                simp only at v0 v1 v2
                have cq : decide ((j : Int) < (qn : Int)) = true := decide_eq_true (by omega)
                have cq2 : (j : Int) < (qn : Int) := by omega
                clear hy hyi
                obtain ⟨G2, hG2⟩ : ∃ G2, (((G1.setCell ⟨(wr.heap.size + 1), 0, none⟩ (.bool yu)).setCell ⟨(wr.heap.size + 1), 1, none⟩ (.int .u32 (yk : Int))).setCell ⟨(wr.heap.size + 1), 2, none⟩ (.slice yA ym yc)) = G2 := ⟨_, rfl⟩
                have hst := store3 HC1.out (.bool yu) (.int .u32 (yk : Int)) (.slice yA ym yc)
                rw [hG2] at hst
                have HC2 := Lib.hid hst.1
                have HA2 := Lib.hid (HA1.out.keep hst.2 (by omega))
                have HGE := Lib.hid (HG1.out.trans (hst.2.below (fun b hb => by have := HSZ.out; omega) HG1.out.size))
                clear hst
                obtain ⟨y0, y1, y2, y3⟩ := pcs_cells (HBP.out.below HGE.out HBP.out.lt)
                obtain ⟨t0, t1, t2, t3⟩ := ocs_cells (HBO.out.below HGE.out HBO.out.lt)
                obtain ⟨z0, z1, z2, z3⟩ := pcs_cells (HBXQ.out.below HGE.out HBXQ.out.lt)
                simp only at y0 y1 y2 y3 t0 t1 t2 t3 z0 z1 z2 z3
                have e0 := HC2.out.cell 0
                have e1 := HC2.out.cell 1
                have e2 := HC2.out.cell 2
                have ef0 := HC2.out.frozen 0
                have ef1 := HC2.out.frozen 1
                have ef2 := HC2.out.frozen 2
                simp only [List.getElem?_toArray, List.getElem?_cons_zero, List.getElem?_cons_succ] at e0 e1 e2
                have a0 := HA2.out.cell 0
                have a1 := HA2.out.cell 1
                have a2 := HA2.out.cell 2
                have af0 := HA2.out.frozen 0
                have af1 := HA2.out.frozen 1
                have af2 := HA2.out.frozen 2
                simp only [List.getElem?_toArray, List.getElem?_cons_zero, List.getElem?_cons_succ] at a0 a1 a2
                by_cases hk2 : qk = 2
                · have hu : u = true := by
                    have hm9 := (DoM_parts HDOM.out).1
                    rw [hk2] at hm9
                    have h9 : ((l.map CV.e).getD j cz).u = true := (rise_at (may_rise hm9 rfl) (show j < (l.map CV.e).length by rw [List.length_map, hpln]; omega)).1
                    rw [show (l.map CV.e).getD j cz = _ from getD_at HX.out] at h9
                    exact h9
                  subst hu
                  have hkl : d ≠ od → atE (ql.map CV.e) d = ⟨true, kk, d⟩ := fun hne => by
                    have hdm := HDOM.out
                    rw [hk2] at hdm
                    have e9 : (l.map CV.e).getD j cz = ⟨true, kk, d⟩ := getD_at HX.out
                    have h9 : ((l.map CV.e).getD j cz).d ≠ od → atE (ql.map CV.e) ((l.map CV.e).getD j cz).d = (l.map CV.e).getD j cz := keep_leaf (fun cc hcc => by obtain ⟨c9, hc9, rfl⟩ := List.mem_map.1 hcc; exact (HPI.out.r.2.1 c9 hc9).b.lt) HOI.out.b.lt hdm (show j < (l.map CV.e).length by rw [List.length_map, hpln]; omega)
                    rw [e9] at h9
                    exact h9 hne
                  rw [← atC_e] at hkl
                  have d2 : (qk == 2) = true := by rw [beq_iff_eq]; exact hk2
                  have d1k : (qk == 1) = false := beq_false_of_ne (by omega)
                  clear hk2
                  have hat := at_any ⟨qk, qs, qx, some ⟨g', o', none⟩, qn, qc, ql⟩ G2 (HQI.out.below HGE.out) HFQ.out xA m xc d ((HPI.out.r.2.1 _ (List.mem_of_getElem? HLP.out)).b.keep (Fr.of_below HGE.out No) fun _ _ hn => hn)
                  have hab := atC_rb (d := d) (fun x hx => HQI.out.r.2.1 x hx)
                  simp only [PV.agg, CV.agg] at hat
                  obtain ⟨ac, hac⟩ : ∃ ac, ac = atC ql d := ⟨_, rfl⟩
                  rw [← hac] at hat hab hkl
                  have HAT := Lib.hid hat
                  have HAB := Lib.hid hab
                  have HKL := Lib.hid hkl
                  clear hat hac hab hkl
                  obtain ⟨au, ak, aA, am, aC, ad⟩ := ac
                  simp only at HAT HAB HKL
                  go_wp2_with fail
                  refine HAT.out.mono ?_
                  rintro e w5 ⟨rfl, hb5⟩
                  have HW5 : Hid (Below W3.heap.size W3 w5) := Lib.hid (HGE.out.trans (hb5.mono HGE.out.size))
                  have HA5 := Lib.hid (HA2.out.below hb5 HA2.out.lt)
                  have HC5 := Lib.hid (HC2.out.below hb5 HC2.out.lt)
                  clear hb5
                  obtain ⟨y0, y1, y2, y3⟩ := pcs_cells (HBP.out.below HW5.out HBP.out.lt)
                  obtain ⟨t0, t1, t2, t3⟩ := ocs_cells (HBO.out.below HW5.out HBO.out.lt)
                  obtain ⟨z0, z1, z2, z3⟩ := pcs_cells (HBXQ.out.below HW5.out HBXQ.out.lt)
                  simp only at y0 y1 y2 y3 t0 t1 t2 t3 z0 z1 z2 z3
                  have a0 := HA5.out.cell 0
                  have a1 := HA5.out.cell 1
                  have a2 := HA5.out.cell 2
                  have af0 := HA5.out.frozen 0
                  have af1 := HA5.out.frozen 1
                  have af2 := HA5.out.frozen 2
                  simp only [List.getElem?_toArray, List.getElem?_cons_zero, List.getElem?_cons_succ] at a0 a1 a2
                  have e0 := HC5.out.cell 0
                  have e1 := HC5.out.cell 1
                  have e2 := HC5.out.cell 2
                  have ef0 := HC5.out.frozen 0
                  have ef1 := HC5.out.frozen 1
                  have ef2 := HC5.out.frozen 2
                  simp only [List.getElem?_toArray, List.getElem?_cons_zero, List.getElem?_cons_succ] at e0 e1 e2
                  obtain ⟨G3, hG3⟩ : ∃ G3, (((w5.setCell ⟨(wr.heap.size + 1), 0, none⟩ (.bool au)).setCell ⟨(wr.heap.size + 1), 1, none⟩ (.int .u32 (ak : Int))).setCell ⟨(wr.heap.size + 1), 2, none⟩ (.slice aA am aC)) = G3 := ⟨_, rfl⟩
                  have hst := store3 HC5.out (.bool au) (.int .u32 (ak : Int)) (.slice aA am aC)
                  rw [hG3] at hst
                  have HC6 := Lib.hid hst.1
                  have HA6 := Lib.hid (HA5.out.keep hst.2 (by omega))
                  have HGE := Lib.hid (HW5.out.trans (hst.2.below (fun b hb => by have := HSZ.out; omega) HW5.out.size))
                  clear hst
                  obtain ⟨y0, y1, y2, y3⟩ := pcs_cells (HBP.out.below HGE.out HBP.out.lt)
                  obtain ⟨t0, t1, t2, t3⟩ := ocs_cells (HBO.out.below HGE.out HBO.out.lt)
                  obtain ⟨z0, z1, z2, z3⟩ := pcs_cells (HBXQ.out.below HGE.out HBXQ.out.lt)
                  simp only at y0 y1 y2 y3 t0 t1 t2 t3 z0 z1 z2 z3
                  have e0 := HC6.out.cell 0
                  have e1 := HC6.out.cell 1
                  have e2 := HC6.out.cell 2
                  have ef0 := HC6.out.frozen 0
                  have ef1 := HC6.out.frozen 1
                  have ef2 := HC6.out.frozen 2
                  simp only [List.getElem?_toArray, List.getElem?_cons_zero, List.getElem?_cons_succ] at e0 e1 e2
                  have a0 := HA6.out.cell 0
                  have a1 := HA6.out.cell 1
                  have a2 := HA6.out.cell 2
                  have af0 := HA6.out.frozen 0
                  have af1 := HA6.out.frozen 1
                  have af2 := HA6.out.frozen 2
                  simp only [List.getElem?_toArray, List.getElem?_cons_zero, List.getElem?_cons_succ] at a0 a1 a2
                  have hcx := run_conv All xA m xc d _ (((HPI.out.r.2.1 _ (List.mem_of_getElem? HLP.out)).b.keep (Fr.of_below HGE.out No) fun _ _ hn => hn))
                  have hca := run_conv All aA am aC ad _ (HAB.out.keep (Fr.of_below HGE.out No) fun _ _ hn => hn)
                  have hco := run_conv All oA om oc od _ (HOI.out.b.keep (Fr.of_below HGE.out No) fun _ _ hn => hn)
                  have hsq : seq d od = decide (d = od) := seq_iff ((HPI.out.r.2.1 _ (List.mem_of_getElem? HLP.out)).b.keep (Fr.of_below HGE.out No) fun _ _ hn => hn).lt HOI.out.b.lt
                  by_cases hdo : d = od
                  · have z4 : seq d od = true := by rw [hsq, decide_eq_true_eq]; exact hdo
                    clear hsq hdo
                    cases au
                    · (go_wp2_with fail; go_roundw; (case rel => exact ⟨j + 1, by omega, by go_num, HGE.out⟩); (case measure => simp [intOf]; omega))
                    · by_cases q2 : kk = ak
                      · have z2 : ((kk : Int) == (ak : Int)) = true := by rw [beq_iff_eq]; omega
                        obtain ⟨sb, hsb⟩ : ∃ sb, seq d ad = sb := ⟨_, rfl⟩
                        clear q2
                        cases sb <;> (go_wp2_with fail; go_roundw; (case rel => exact ⟨j + 1, by omega, by go_num, HGE.out⟩); (case measure => simp [intOf]; omega))
                      · have z2 : ((kk : Int) == (ak : Int)) = false := beq_false_of_ne (by omega)
                        clear q2
                        (go_wp2_with fail; go_roundw; (case rel => exact ⟨j + 1, by omega, by go_num, HGE.out⟩); (case measure => simp [intOf]; omega))
                  · have z4 : seq d od = false := by rw [hsq, decide_eq_false_iff_not]; exact hdo
                    have hkp := HKL.out hdo
                    clear hsq hdo
                    injection hkp with h1 h2 h3
                    simp only at h1 h2 h3
                    subst h1
                    have z2 : ((kk : Int) == (ak : Int)) = true := by rw [beq_iff_eq]; omega
                    have z3 : seq d ad = true := by unfold seq; rw [h3]; simp
                    clear h2 h3
                    (go_wp2_with fail; go_roundw; (case rel => exact ⟨j + 1, by omega, by go_num, HGE.out⟩); (case measure => simp [intOf]; omega))
                · have hk1 : qk = 1 := by omega
                  have d2 : (qk == 2) = false := beq_false_of_ne (by omega)
                  have d1k : (qk == 1) = true := by rw [beq_iff_eq]; exact hk1
                  have hcx := run_conv All xA m xc d _ (((HPI.out.r.2.1 _ (List.mem_of_getElem? HLP.out)).b.keep (Fr.of_below HGE.out No) fun _ _ hn => hn))
                  have hcy := run_conv All yA ym yc yd _ (((HQI.out.r.2.1 _ (List.mem_of_getElem? HLQ.out)).b.keep (Fr.of_below HGE.out No) fun _ _ hn => hn))
                  by_cases hjs : (j : Int) = os
                  · have s1 : ((j : Int) == os) = true := by rw [beq_iff_eq]; exact hjs
                    clear hjs
                    cases u <;> cases yu
                    all_goals
                      by_cases q2 : (kk : Int) = (yk : Int)
                      · have z2 : (((kk : Int)) == ((yk : Int))) = true := by rw [beq_iff_eq]; exact q2
                        obtain ⟨sb, hsb⟩ : ∃ sb, seq d yd = sb := ⟨_, rfl⟩
                        clear q2
                        cases sb <;> (go_wp2_with fail; go_roundw; (case rel => exact ⟨j + 1, by omega, by go_num, HGE.out⟩); (case measure => simp [intOf]; omega))
                      · have z2 : (((kk : Int)) == ((yk : Int))) = false := beq_false_of_ne q2
                        clear q2
                        go_wp2_with fail
                        go_roundw
                        case rel => exact ⟨j + 1, by omega, by go_num, HGE.out⟩
                        case measure => simp [intOf]; omega
                  · have s1 : ((j : Int) == os) = false := beq_false_of_ne hjs
                    have hdm := HDOM.out
                    rw [hk1] at hdm
                    have hkp : (ql.map CV.e).getD j cz = (l.map CV.e).getD j cz := keep_heap hdm hjs
                    clear hdm hjs
                    rw [show (ql.map CV.e).getD j cz = _ from getD_at HY.out] at hkp
                    rw [show (l.map CV.e).getD j cz = _ from getD_at HX.out] at hkp
                    injection hkp with h1 h2 h3
                    simp only at h1 h2 h3
                    subst h1
                    have z2 : (((kk : Int)) == ((yk : Int))) = true := by rw [beq_iff_eq]; omega
                    have z3 : seq d yd = true := by unfold seq; rw [h3]; simp
                    clear h2 h3
                    cases yu <;> (go_wp2_with fail; go_roundw; (case rel => exact ⟨j + 1, by omega, by go_num, HGE.out⟩); (case measure => simp [intOf]; omega))
              · have cq : decide ((j : Int) < (qn : Int)) = false := decide_eq_false (by omega)
                have cq3 : decide (j < qn) = false := decide_eq_false (by omega)
                by_cases hk2 : qk = 2
                · have hu : u = true := by
                    have hm9 := (DoM_parts HDOM.out).1
                    rw [hk2] at hm9
                    have h9 : ((l.map CV.e).getD j cz).u = true := (rise_at (may_rise hm9 rfl) (show j < (l.map CV.e).length by rw [List.length_map, hpln]; omega)).1
                    rw [show (l.map CV.e).getD j cz = _ from getD_at HX.out] at h9
                    exact h9
                  subst hu
                  have hkl : d ≠ od → atE (ql.map CV.e) d = ⟨true, kk, d⟩ := fun hne => by
                    have hdm := HDOM.out
                    rw [hk2] at hdm
                    have e9 : (l.map CV.e).getD j cz = ⟨true, kk, d⟩ := getD_at HX.out
                    have h9 : ((l.map CV.e).getD j cz).d ≠ od → atE (ql.map CV.e) ((l.map CV.e).getD j cz).d = (l.map CV.e).getD j cz := keep_leaf (fun cc hcc => by obtain ⟨c9, hc9, rfl⟩ := List.mem_map.1 hcc; exact (HPI.out.r.2.1 c9 hc9).b.lt) HOI.out.b.lt hdm (show j < (l.map CV.e).length by rw [List.length_map, hpln]; omega)
                    rw [e9] at h9
                    exact h9 hne
                  rw [← atC_e] at hkl
                  have d2 : (qk == 2) = true := by rw [beq_iff_eq]; exact hk2
                  have d1k : (qk == 1) = false := beq_false_of_ne (by omega)
                  clear hk2
                  have hat := at_any ⟨qk, qs, qx, qA, qn, qc, ql⟩ G1 (HQI.out.below HG1.out) HFQ.out xA m xc d ((HPI.out.r.2.1 _ (List.mem_of_getElem? HLP.out)).b.keep (Fr.of_below HG1.out No) fun _ _ hn => hn)
                  have hab := atC_rb (d := d) (fun x hx => HQI.out.r.2.1 x hx)
                  simp only [PV.agg, CV.agg] at hat
                  obtain ⟨ac, hac⟩ : ∃ ac, ac = atC ql d := ⟨_, rfl⟩
                  rw [← hac] at hat hab hkl
                  have HAT := Lib.hid hat
                  have HAB := Lib.hid hab
                  have HKL := Lib.hid hkl
                  clear hat hac hab hkl
                  obtain ⟨au, ak, aA, am, aC, ad⟩ := ac
                  simp only at HAT HAB HKL
                  go_wp2_with fail
                  refine HAT.out.mono ?_
                  rintro e w5 ⟨rfl, hb5⟩
                  have HW5 : Hid (Below W3.heap.size W3 w5) := Lib.hid (HG1.out.trans (hb5.mono HG1.out.size))
                  have HA5 := Lib.hid (HA1.out.below hb5 HA1.out.lt)
                  have HC5 := Lib.hid (HC1.out.below hb5 HC1.out.lt)
                  clear hb5
                  obtain ⟨y0, y1, y2, y3⟩ := pcs_cells (HBP.out.below HW5.out HBP.out.lt)
                  obtain ⟨t0, t1, t2, t3⟩ := ocs_cells (HBO.out.below HW5.out HBO.out.lt)
                  obtain ⟨z0, z1, z2, z3⟩ := pcs_cells (HBXQ.out.below HW5.out HBXQ.out.lt)
                  simp only at y0 y1 y2 y3 t0 t1 t2 t3 z0 z1 z2 z3
                  have a0 := HA5.out.cell 0
                  have a1 := HA5.out.cell 1
                  have a2 := HA5.out.cell 2
                  have af0 := HA5.out.frozen 0
                  have af1 := HA5.out.frozen 1
                  have af2 := HA5.out.frozen 2
                  simp only [List.getElem?_toArray, List.getElem?_cons_zero, List.getElem?_cons_succ] at a0 a1 a2
                  have e0 := HC5.out.cell 0
                  have e1 := HC5.out.cell 1
                  have e2 := HC5.out.cell 2
                  have ef0 := HC5.out.frozen 0
                  have ef1 := HC5.out.frozen 1
                  have ef2 := HC5.out.frozen 2
                  simp only [List.getElem?_toArray, List.getElem?_cons_zero, List.getElem?_cons_succ] at e0 e1 e2
                  obtain ⟨G3, hG3⟩ : ∃ G3, (((w5.setCell ⟨(wr.heap.size + 1), 0, none⟩ (.bool au)).setCell ⟨(wr.heap.size + 1), 1, none⟩ (.int .u32 (ak : Int))).setCell ⟨(wr.heap.size + 1), 2, none⟩ (.slice aA am aC)) = G3 := ⟨_, rfl⟩
                  have hst := store3 HC5.out (.bool au) (.int .u32 (ak : Int)) (.slice aA am aC)
                  rw [hG3] at hst
                  have HC6 := Lib.hid hst.1
                  have HA6 := Lib.hid (HA5.out.keep hst.2 (by omega))
                  have HGE := Lib.hid (HW5.out.trans (hst.2.below (fun b hb => by have := HSZ.out; omega) HW5.out.size))
                  clear hst
                  obtain ⟨y0, y1, y2, y3⟩ := pcs_cells (HBP.out.below HGE.out HBP.out.lt)
                  obtain ⟨t0, t1, t2, t3⟩ := ocs_cells (HBO.out.below HGE.out HBO.out.lt)
                  obtain ⟨z0, z1, z2, z3⟩ := pcs_cells (HBXQ.out.below HGE.out HBXQ.out.lt)
                  simp only at y0 y1 y2 y3 t0 t1 t2 t3 z0 z1 z2 z3
                  have e0 := HC6.out.cell 0
                  have e1 := HC6.out.cell 1
                  have e2 := HC6.out.cell 2
                  have ef0 := HC6.out.frozen 0
                  have ef1 := HC6.out.frozen 1
                  have ef2 := HC6.out.frozen 2
                  simp only [List.getElem?_toArray, List.getElem?_cons_zero, List.getElem?_cons_succ] at e0 e1 e2
                  have a0 := HA6.out.cell 0
                  have a1 := HA6.out.cell 1
                  have a2 := HA6.out.cell 2
                  have af0 := HA6.out.frozen 0
                  have af1 := HA6.out.frozen 1
                  have af2 := HA6.out.frozen 2
                  simp only [List.getElem?_toArray, List.getElem?_cons_zero, List.getElem?_cons_succ] at a0 a1 a2
                  have hcx := run_conv All xA m xc d _ (((HPI.out.r.2.1 _ (List.mem_of_getElem? HLP.out)).b.keep (Fr.of_below HGE.out No) fun _ _ hn => hn))
                  have hca := run_conv All aA am aC ad _ (HAB.out.keep (Fr.of_below HGE.out No) fun _ _ hn => hn)
                  have hco := run_conv All oA om oc od _ (HOI.out.b.keep (Fr.of_below HGE.out No) fun _ _ hn => hn)
                  have hsq : seq d od = decide (d = od) := seq_iff ((HPI.out.r.2.1 _ (List.mem_of_getElem? HLP.out)).b.keep (Fr.of_below HGE.out No) fun _ _ hn => hn).lt HOI.out.b.lt
                  by_cases hdo : d = od
                  · have z4 : seq d od = true := by rw [hsq, decide_eq_true_eq]; exact hdo
                    clear hsq hdo
                    cases au
                    · (go_wp2_with fail; go_roundw; (case rel => exact ⟨j + 1, by omega, by go_num, HGE.out⟩); (case measure => simp [intOf]; omega))
                    · by_cases q2 : kk = ak
                      · have z2 : ((kk : Int) == (ak : Int)) = true := by rw [beq_iff_eq]; omega
                        obtain ⟨sb, hsb⟩ : ∃ sb, seq d ad = sb := ⟨_, rfl⟩
                        clear q2
                        cases sb <;> (go_wp2_with fail; go_roundw; (case rel => exact ⟨j + 1, by omega, by go_num, HGE.out⟩); (case measure => simp [intOf]; omega))
                      · have z2 : ((kk : Int) == (ak : Int)) = false := beq_false_of_ne (by omega)
                        clear q2
                        (go_wp2_with fail; go_roundw; (case rel => exact ⟨j + 1, by omega, by go_num, HGE.out⟩); (case measure => simp [intOf]; omega))
                  · have z4 : seq d od = false := by rw [hsq, decide_eq_false_iff_not]; exact hdo
                    have hkp := HKL.out hdo
                    clear hsq hdo
                    injection hkp with h1 h2 h3
                    simp only at h1 h2 h3
                    subst h1
                    have z2 : ((kk : Int) == (ak : Int)) = true := by rw [beq_iff_eq]; omega
                    have z3 : seq d ad = true := by unfold seq; rw [h3]; simp
                    clear h2 h3
                    (go_wp2_with fail; go_roundw; (case rel => exact ⟨j + 1, by omega, by go_num, HGE.out⟩); (case measure => simp [intOf]; omega))
                · have hk1 : qk = 1 := by omega
                  have d2 : (qk == 2) = false := beq_false_of_ne (by omega)
                  have d1k : (qk == 1) = true := by rw [beq_iff_eq]; exact hk1
                  have hcx := run_conv All xA m xc d _ (((HPI.out.r.2.1 _ (List.mem_of_getElem? HLP.out)).b.keep (Fr.of_below HG1.out No) fun _ _ hn => hn))
                  have hcz := run_conv All none 0 0 [] G1 ⟨rfl, by simp, fun h => absurd h (by omega)⟩
                  have HGE := HG1
                  by_cases hjs : (j : Int) = os
                  · have s1 : ((j : Int) == os) = true := by rw [beq_iff_eq]; exact hjs
                    clear hjs
                    cases u
                    all_goals
                      by_cases q2 : kk = 0
                      · have z2 : ((kk : Int) == 0) = true := by rw [beq_iff_eq]; omega
                        obtain ⟨sb, hsb⟩ : ∃ sb, seq d [] = sb := ⟨_, rfl⟩
                        clear q2
                        cases sb <;> (go_wp2_with fail; go_roundw; (case rel => exact ⟨j + 1, by omega, by go_num, HGE.out⟩); (case measure => simp [intOf]; omega))
                      · have z2 : ((kk : Int) == 0) = false := beq_false_of_ne (by omega)
                        clear q2
                        (go_wp2_with fail; go_roundw; (case rel => exact ⟨j + 1, by omega, by go_num, HGE.out⟩); (case measure => simp [intOf]; omega))
                  · have s1 : ((j : Int) == os) = false := beq_false_of_ne hjs
                    have hdm := HDOM.out
                    rw [hk1] at hdm
                    have hkp : (ql.map CV.e).getD j cz = (l.map CV.e).getD j cz := keep_heap hdm hjs
                    clear hdm hjs
                    rw [show (ql.map CV.e).getD j cz = cz from getD_out (by rw [List.length_map, hqln]; omega)] at hkp
                    rw [show (l.map CV.e).getD j cz = _ from getD_at HX.out] at hkp
                    injection hkp with h1 h2 h3
                    simp only at h1 h2 h3
                    have h1' := h1.symm
                    subst h1'
                    have z2 : ((kk : Int) == 0) = true := by rw [beq_iff_eq]; omega
                    have z3 : seq d [] = true := by unfold seq; rw [← h3]; simp
                    clear h1 h2 h3
                    (go_wp2_with fail; go_roundw; (case rel => exact ⟨j + 1, by omega, by go_num, HGE.out⟩); (case measure => simp [intOf]; omega))
            · have cj : decide ((j : Int) < (n : Int)) = false := decide_eq_false (by omega)
              have cj3 : decide (j < n) = false := decide_eq_false (by omega)
              have hjq : j < qn := by have := HMM.out; omega
              obtain ⟨g', o', y, rfl, hg', _, hy, hyi, v0, v1, v2⟩ := (HQI.out.r.below HG0.out).at_ hjq
              have HY := Lib.hid (es_at hy)
              have HLQ := Lib.hid hy
              have HYI := Lib.hid hyi
              obtain ⟨yu, yk, yA, ym, yc, yd⟩ := y
              simp only at v0 v1 v2
              have cq : decide ((j : Int) < (qn : Int)) = true := decide_eq_true (by omega)
              have cq2 : (j : Int) < (qn : Int) := by omega
              clear hy hyi
              obtain ⟨G2, hG2⟩ : ∃ G2, (((G.setCell ⟨(wr.heap.size + 1), 0, none⟩ (.bool yu)).setCell ⟨(wr.heap.size + 1), 1, none⟩ (.int .u32 (yk : Int))).setCell ⟨(wr.heap.size + 1), 2, none⟩ (.slice yA ym yc)) = G2 := ⟨_, rfl⟩
              have hst := store3 HC0.out (.bool yu) (.int .u32 (yk : Int)) (.slice yA ym yc)
              rw [hG2] at hst
              have HC2 := Lib.hid hst.1
              have HA2 := Lib.hid (HA0.out.keep hst.2 (by omega))
              have HGE := Lib.hid (HG0.out.trans (hst.2.below (fun b hb => by have := HSZ.out; omega) HG0.out.size))
              clear hst
              obtain ⟨y0, y1, y2, y3⟩ := pcs_cells (HBP.out.below HGE.out HBP.out.lt)
              obtain ⟨t0, t1, t2, t3⟩ := ocs_cells (HBO.out.below HGE.out HBO.out.lt)
              obtain ⟨z0, z1, z2, z3⟩ := pcs_cells (HBXQ.out.below HGE.out HBXQ.out.lt)
              simp only at y0 y1 y2 y3 t0 t1 t2 t3 z0 z1 z2 z3
              have e0 := HC2.out.cell 0
              have e1 := HC2.out.cell 1
              have e2 := HC2.out.cell 2
              have ef0 := HC2.out.frozen 0
              have ef1 := HC2.out.frozen 1
              have ef2 := HC2.out.frozen 2
              simp only [List.getElem?_toArray, List.getElem?_cons_zero, List.getElem?_cons_succ] at e0 e1 e2
              have a0 := HA2.out.cell 0
              have a1 := HA2.out.cell 1
              have a2 := HA2.out.cell 2
              have af0 := HA2.out.frozen 0
              have af1 := HA2.out.frozen 1
              have af2 := HA2.out.frozen 2
              simp only [List.getElem?_toArray, List.getElem?_cons_zero, List.getElem?_cons_succ] at a0 a1 a2
              by_cases hk2 : qk = 2
              · have d2 : (qk == 2) = true := by rw [beq_iff_eq]; exact hk2
                have d1k : (qk == 1) = false := beq_false_of_ne (by omega)
                have hu : yu = true := by
                  have hm9 := HM1.out
                  rw [hk2] at hm9
                  have h9 : ((ql.map CV.e).getD j cz).u = true := (rise_at (may_rise hm9 rfl) (show j < (ql.map CV.e).length by rw [List.length_map, hqln]; omega)).1
                  rw [show (ql.map CV.e).getD j cz = _ from getD_at HY.out] at h9
                  exact h9
                subst hu
                (go_wp2_with fail; go_roundw; (case rel => exact ⟨j + 1, by omega, by go_num, HGE.out⟩); (case measure => simp [intOf]; omega))
              · have hk1 : qk = 1 := by omega
                have d2 : (qk == 2) = false := beq_false_of_ne (by omega)
                have d1k : (qk == 1) = true := by rw [beq_iff_eq]; exact hk1
                have hcy := run_conv All yA ym yc yd _ (((HQI.out.r.2.1 _ (List.mem_of_getElem? HLQ.out)).b.keep (Fr.of_below HGE.out No) fun _ _ hn => hn))
                have hcz := run_conv All none 0 0 [] G2 ⟨rfl, by simp, fun h => absurd h (by omega)⟩
                by_cases hjs : (j : Int) = os
                · have s1 : ((j : Int) == os) = true := by rw [beq_iff_eq]; exact hjs
                  clear hjs
                  cases yu
                  all_goals
                    by_cases q2 : yk = 0
                    · have z2 : ((0 : Int) == (yk : Int)) = true := by rw [beq_iff_eq]; omega
                      obtain ⟨sb, hsb⟩ : ∃ sb, seq [] yd = sb := ⟨_, rfl⟩
                      clear q2
                      cases sb <;> (go_wp2_with fail; go_roundw; (case rel => exact ⟨j + 1, by omega, by go_num, HGE.out⟩); (case measure => simp [intOf]; omega))
                    · have z2 : ((0 : Int) == (yk : Int)) = false := beq_false_of_ne (by omega)
                      clear q2
                      (go_wp2_with fail; go_roundw; (case rel => exact ⟨j + 1, by omega, by go_num, HGE.out⟩); (case measure => simp [intOf]; omega))
                · have s1 : ((j : Int) == os) = false := beq_false_of_ne hjs
                  have hdm := HDOM.out
                  rw [hk1] at hdm
                  have hkp : (ql.map CV.e).getD j cz = (l.map CV.e).getD j cz := keep_heap hdm hjs
                  clear hdm hjs
                  rw [show (ql.map CV.e).getD j cz = _ from getD_at HY.out] at hkp
                  rw [show (l.map CV.e).getD j cz = cz from getD_out (by rw [List.length_map, hpln]; omega)] at hkp
                  injection hkp with h1 h2 h3
                  simp only at h1 h2 h3
                  subst h1
                  have z2 : ((0 : Int) == (yk : Int)) = true := by rw [beq_iff_eq]; omega
                  have z3 : seq [] yd = true := by unfold seq; rw [h3]; simp
                  clear h2 h3
                  (go_wp2_with fail; go_roundw; (case rel => exact ⟨j + 1, by omega, by go_num, HGE.out⟩); (case measure => simp [intOf]; omega))
          · have c1 : decide ((j : Int) < (M : Int)) = false := decide_eq_false (by omega)
            have c1b : decide (j < M) = false := decide_eq_false hlt
            go_wp2_with fail
            refine (HAL.out _).mono ?_
            rintro e wz ⟨rfl, hbz⟩
            have HBZ := Lib.hid (HB5.out.trans (hbz.mono HB5.out.size))
            clear hbz
            go_wp2_with fail
            go_ret
            exact ⟨rfl, HBWW.out.trans (HBZ.out.mono HBWW.out.size)⟩
      · have k0 : (cR != 0) = true := bne_iff_ne.2 hc0
        have hqq := HQZ.out (fun h => hc0 (HCR.out.trans h))
        have hsa := same_any q PV.zero W3 HQI.out ((PO.zero W3 All All).In.all)
        have hse : sameP q PV.zero = true := by rw [hqq]; unfold sameP; simp
        rw [hse] at hsa
        clear hqq hse hc0
        obtain ⟨qk, qs, qx, qA, qn, qc, ql⟩ := q
        simp only at z0 z1 z2 z3 hW3
        simp only [PV.agg, PV.zero, Int.ofNat_zero] at hsa
        simp only [PV.agg]
        have HSA := Lib.hid hsa
        clear hsa
        go_wp2_with fail
        refine HSA.out.mono ?_
        rintro e w4 ⟨rfl, hb4⟩
        have HB4 := Lib.hid hb4
        clear hb4
        go_wp2_with fail
        refine (HAL.out _).mono ?_
        rintro e wz ⟨rfl, hbz⟩
        have HBZ := Lib.hid (HB4.out.trans (hbz.mono HB4.out.size))
        clear hbz
        go_wp2_with fail
        go_ret
        exact ⟨rfl, HBWW.out.trans (HBZ.out.mono HBWW.out.size)⟩
end Go.Proofs.Ytajmpoanmdgmpaa.pageKeeps
