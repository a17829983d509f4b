/-
  THE WALK OF Do.
-/
import Derived.Test.YtajmpoanmdgmpaaSM
import Derived.Test.YtajmpoanmdgmpaaPQ
import Derived.Test.YtajmpoanmdgmpaaPN
namespace Go.Proofs.Ytajmpoanmdgmpaa
open Go.RowKit

/-- what Do comes to: an error, or 0 and the cells -/
def DoM (k : Int) (es : List CE) (ok os : Int) (ot m : Nat) (od : List Nat) : Int × List CE :=
  if may k es then (if rightP k ok os ot m then doM k es ok os ot od else (1, [])) else (5, [])
def DoA (w : World) (p : PV) (r : Int × List CE) (e : Ending) (w' : World) : Prop :=
  ∃ q S T, e = .returned (.tuple #[q.agg, .int .i64 r.1]) ∧ PO w' S T q ∧ (∀ b, S b → w.heap.size ≤ b) ∧ (∀ b, T b → w.heap.size ≤ b) ∧ Below w.heap.size w w' ∧ (r.1 = 0 → q.es = r.2 ∧ q.k = p.k ∧ q.s = p.s ∧ q.x = p.x) ∧ (r.1 ≠ 0 → q = PV.zero)
theorem PO.zero (w : World) (S T : Nat → Prop) : PO w S T PV.zero := ⟨OwC.nil_ _ _ _, Nat.zero_le _, by show (_ : Int) ≤ 0; omega, by show (0 : Int) ≤ _; omega, by show 0 < _; omega, by show 0 < _; omega⟩
theorem DoA.no {w w' : World} {p : PV} {c : Int} (hc : c ≠ 0) (h : Below w.heap.size w w') : DoA w p (c, []) (.returned (.tuple #[PV.zero.agg, .int .i64 c])) w' :=
  ⟨PV.zero, fun b => w.heap.size ≤ b, fun b => w.heap.size ≤ b, rfl, PO.zero _ _ _, fun _ h => h, fun _ h => h, h, fun h => absurd h hc, fun _ => rfl⟩
theorem may_rise {k : Int} {es : List CE} (h : may k es = true) : k = 2 → rise 0 es = true := by
  intro hk
  unfold may at h
  simp only [Bool.and_eq_true] at h
  have := h.2.2.2
  unfold stand at this
  rw [if_neg (by omega), if_neg (by omega), if_pos hk] at this
  exact this
theorem right_parts {kd k s : Int} {t m : Nat} (h : rightP kd k s t m = true) : (kd = 1 ∨ kd = 2) ∧ 1 ≤ k ∧ k ≤ 4 ∧ m ≤ 180 := by
  unfold rightP at h
  split at h
  · cases h
  rename_i h1
  split at h
  · cases h
  split at h
  · cases h
  split at h
  · cases h
  have hk : kd = 1 ∨ kd = 2 := by
    unfold takes at h1
    simp only [Bool.not_eq_false, Bool.or_eq_true, beq_iff_eq] at h1
    exact h1
  refine ⟨hk, by omega, by omega, ?_⟩
  split at h
  · split at h
    · unfold dataOk at h; simp only [Bool.and_eq_true, decide_eq_true_eq] at h; exact h.2
    · cases h
  · split at h
    · unfold dataOk at h; simp only [Bool.and_eq_true, decide_eq_true_eq] at h; exact h.2
    · simp only [decide_eq_true_eq] at h; omega
set_option maxHeartbeats 4000000 in
set_option maxRecDepth 100000 in
theorem Do_any (w : World) (p : PV) (h : p.In w All All) (hf : Few p) (op : OV) (hop : op.In w All) (hm2 : op.m ≤ 2000) : Calls Try.prog 30 #[p.agg, op.agg] w (DoA w p (DoM p.k p.es op.k op.s op.t op.m op.d)) := by
  obtain ⟨W1, hW1, hBW1, hbx1, hsz1⟩ := box_page w p
  obtain ⟨W2, hW2, hBW2, hbx2, hsz2⟩ := box_op W1 op
  obtain ⟨W, hW⟩ : ∃ W, W2.alloc (.cells #[.int .i64 0, .int .u64 0, .int .u32 0, .slice none 0 0] 26) = W := ⟨_, rfl⟩
  have hB3 : Below W2.heap.size W2 W := by rw [← hW]; exact (Below.refl _ _).alloc (Nat.le_refl _) _
  have hBW : Below w.heap.size w W := (hBW1.trans (hBW2.mono hBW1.size)).trans (hB3.mono (by omega))
  have hbx : Blk W w.heap.size 26 (pcs p) := (hbx1.below hBW2 (by omega)).below hB3 (by omega)
  have hbo : Blk W W1.heap.size 46 (ocs op) := hbx2.below hB3 (by omega)
  have hbr : Blk W W2.heap.size 26 #[.int .i64 0, .int .u64 0, .int .u32 0, .slice none 0 0] := by rw [← hW]; exact Blk.new W2 26 _
  have hsz : W.heap.size = w.heap.size + 3 := by rw [← hW]; simp; omega
  obtain ⟨y0, y1, y2, y3⟩ := pcs_cells hbx
  have hmy := may_any p W (h.below hBW) hf
  obtain ⟨mb, hmb⟩ : ∃ mb, mb = may p.k p.es := ⟨_, rfl⟩
  rw [← hmb] at hmy
  have HM := Lib.hid hmy
  have HMB := Lib.hid hmb
  have HR := Lib.hid (fun W' => right_any p.k op W')
  obtain ⟨rb, hrb⟩ : ∃ rb, rb = rightP p.k op.k op.s op.t op.m := ⟨_, rfl⟩
  rw [← hrb] at HR
  have HRB := Lib.hid hrb
  have HC := Lib.hid (fun W' (hW' : Below W.heap.size W W') => copied_any p W' ((h.below hBW).below hW') hf)
  have HBW := Lib.hid hBW
  have HBX := Lib.hid hbx
  have HBO := Lib.hid hbo
  have HBR := Lib.hid hbr
  have HSZ := Lib.hid hsz
  have HS1 := Lib.hid hsz1
  have HS2 := Lib.hid hsz2
  have HF := Lib.hid hf
  have HOP := Lib.hid (hop.below hBW)
  have HLZ := Lib.hid (fun z hz => (h.r.2.1 z hz).len)
  have HLEN := Lib.hid h.len
  obtain ⟨pk, ps, px, pA, n, pc, l⟩ := p
  obtain ⟨ok, os, ot, oA, om, oc, od⟩ := op
  simp only at hW1 hW2 y0 y1 y2 y3 hm2
  simp only [PV.agg, OV.agg] at HM HR HC ⊢
  clear h hf hop hbx hbo hbr hBW hBW1 hBW2 hB3 hsz hsz1 hsz2 hbx1 hbx2 hmy hmb hrb
  have HEND : Hid (∀ X G, Below W.heap.size W X → Fr X G (fun b => b = W2.heap.size) → Below w.heap.size w G) := fun X G h1 h2 => by
    have h3 : Below w.heap.size w X := HBW.out.trans (h1.mono HBW.out.size)
    exact h3.trans (h2.below (fun b hb => by have := HS1.out; have := HS2.out; omega) h3.size)
  go_enter Try.func30, Try.ntmps30
  go_wp2_with fail
  refine HM.out.mono ?_
  rintro e w1 ⟨rfl, hb1⟩
  have HB1 := Lib.hid hb1
  obtain ⟨y0, y1, y2, y3⟩ := pcs_cells (HBX.out.below hb1 (by have := HSZ.out; omega))
  obtain ⟨t0, t1, t2, t3⟩ := ocs_cells (HBO.out.below hb1 (by have := HSZ.out; have := HS1.out; omega))
  simp only at y0 y1 y2 y3 t0 t1 t2 t3
  clear hb1
  cases mb with
  | false =>
    have hbz := HBR.out.below HB1.out (by have := HSZ.out; have := HS1.out; have := HS2.out; omega)
    have r0 := hbz.cell 0
    have r1 := hbz.cell 1
    have r2 := hbz.cell 2
    have r3 := hbz.cell 3
    have q0 := hbz.frozen 0
    have q1 := hbz.frozen 1
    have q2 := hbz.frozen 2
    have q3 := hbz.frozen 3
    simp only [List.getElem?_toArray, List.getElem?_cons_zero, List.getElem?_cons_succ] at r0 r1 r2 r3
    obtain ⟨G, hG⟩ : ∃ G, (((w1.setCell ⟨W2.heap.size, 0, none⟩ (.int .i64 0)).setCell ⟨W2.heap.size, 1, none⟩ (.int .u64 0)).setCell ⟨W2.heap.size, 2, none⟩ (.int .u32 0)).setCell ⟨W2.heap.size, 3, none⟩ (.slice none 0 0) = G := ⟨_, rfl⟩
    have hbg : Blk G W2.heap.size 26 #[.int .i64 0, .int .u64 0, .int .u32 0, (.slice none 0 0)] := by rw [← hG]; exact (((hbz.set_ 0 _).set_ 1 _).set_ 2 _).set_ 3 _
    have hfG : Fr w1 G (fun b => b = W2.heap.size) := by
      rw [← hG]
      exact fr_set (fr_set (fr_set (fr_set (Fr.refl _ _) _ _) _ _) _ _) _ _
    have g0 := hbg.cell 0
    have g1 := hbg.cell 1
    have g2 := hbg.cell 2
    have g3 := hbg.cell 3
    simp only [List.getElem?_toArray, List.getElem?_cons_zero, List.getElem?_cons_succ] at g0 g1 g2 g3
    have HFG := Lib.hid hfG
    clear hbg hfG
    clear hbz
    go_wp2_with fail
    refine bodyPost_ret (v := .tuple #[PV.zero.agg, .int .i64 5]) (by simp [results, Try.results30, go_sem, g0, g1, g2, g3, PV.agg, PV.zero]) rfl ?_
    have hgoal : DoM pk (⟨pk, ps, px, pA, n, pc, l⟩ : PV).es ok os ot om od = (5, []) := by
      unfold DoM
      have h1 := HMB.out
      rw [← h1, if_neg (by simp)]
    rw [hgoal]
    exact DoA.no (by decide) (HEND.out _ _ HB1.out HFG.out)
  | true =>
    go_wp2_with fail
    refine (HR.out _).mono ?_
    rintro e w2 ⟨rfl, hb2⟩
    have HB2 := Lib.hid (HB1.out.trans (hb2.mono HB1.out.size))
    obtain ⟨y0, y1, y2, y3⟩ := pcs_cells (HBX.out.below HB2.out (by have := HSZ.out; omega))
    simp only at y0 y1 y2 y3
    clear hb2
    cases rb with
    | false =>
      have hbz := HBR.out.below HB2.out (by have := HSZ.out; have := HS1.out; have := HS2.out; omega)
      have r0 := hbz.cell 0
      have r1 := hbz.cell 1
      have r2 := hbz.cell 2
      have r3 := hbz.cell 3
      have q0 := hbz.frozen 0
      have q1 := hbz.frozen 1
      have q2 := hbz.frozen 2
      have q3 := hbz.frozen 3
      simp only [List.getElem?_toArray, List.getElem?_cons_zero, List.getElem?_cons_succ] at r0 r1 r2 r3
      obtain ⟨G, hG⟩ : ∃ G, (((w2.setCell ⟨W2.heap.size, 0, none⟩ (.int .i64 0)).setCell ⟨W2.heap.size, 1, none⟩ (.int .u64 0)).setCell ⟨W2.heap.size, 2, none⟩ (.int .u32 0)).setCell ⟨W2.heap.size, 3, none⟩ (.slice none 0 0) = G := ⟨_, rfl⟩
      have hbg : Blk G W2.heap.size 26 #[.int .i64 0, .int .u64 0, .int .u32 0, (.slice none 0 0)] := by rw [← hG]; exact (((hbz.set_ 0 _).set_ 1 _).set_ 2 _).set_ 3 _
      have hfG : Fr w2 G (fun b => b = W2.heap.size) := by
        rw [← hG]
        exact fr_set (fr_set (fr_set (fr_set (Fr.refl _ _) _ _) _ _) _ _) _ _
      have g0 := hbg.cell 0
      have g1 := hbg.cell 1
      have g2 := hbg.cell 2
      have g3 := hbg.cell 3
      simp only [List.getElem?_toArray, List.getElem?_cons_zero, List.getElem?_cons_succ] at g0 g1 g2 g3
      have HFG := Lib.hid hfG
      clear hbg hfG
      clear hbz
      go_wp2_with fail
      refine bodyPost_ret (v := .tuple #[PV.zero.agg, .int .i64 1]) (by simp [results, Try.results30, go_sem, g0, g1, g2, g3, PV.agg, PV.zero]) rfl ?_
      have hgoal : DoM pk (⟨pk, ps, px, pA, n, pc, l⟩ : PV).es ok os ot om od = (1, []) := by
        unfold DoM
        have h1 := HMB.out
        have h2 := HRB.out
        rw [← h1, ← h2, if_pos rfl, if_neg (by simp)]
      rw [hgoal]
      exact DoA.no (by decide) (HEND.out _ _ HB2.out HFG.out)
    | true =>
      go_wp2_with fail
      refine (HC.out _ HB2.out).mono ?_
      rintro e w3 ⟨p', S, T, rfl, hpo, hS, hT, hes, hpk, hps, hpx, hpn, hb3⟩
      have HB3 := Lib.hid (HB2.out.trans (hb3.mono HB2.out.size))
      have hw2 : W.heap.size ≤ w2.heap.size := HB2.out.size
      have HSS := Lib.hid (show (∀ b, S b → W.heap.size ≤ b) ∧ ∀ b, T b → W.heap.size ≤ b from ⟨fun b hb => Nat.le_trans hw2 (hS b hb), fun b hb => Nat.le_trans hw2 (hT b hb)⟩)
      have HXS := Lib.hid (show p'.s = ps ∧ p'.x = px ∧ p'.k = pk from ⟨hps, hpx, hpk⟩)
      obtain ⟨s0, s1, s2, s3⟩ := ocs_cells ((HBO.out.below HB3.out (by have := HSZ.out; have := HS1.out; omega)).alloc (.cells #[.int .i64 p'.k, .int .u64 (p'.s : Int), .int .u32 (p'.x : Int), .slice p'.A p'.n p'.c] 26))
      obtain ⟨D, hD, hBD, hbd, hszd⟩ := box_page w3 p'
      rw [hD] at s0 s1 s2 s3
      simp only at s0 s1 s2 s3
      have hrt := right_parts HRB.out.symm
      have hml : ∀ x ∈ p'.l, x.m ≤ 2000 := fun y hy => by
        have h1 : y.e ∈ p'.es := List.mem_map_of_mem hy
        rw [hes] at h1
        obtain ⟨z, hz, hze⟩ := List.mem_map.1 h1
        have h2 := (hpo.o.2.1 y hy).len
        have h4 : z.d = y.d := congrArg CE.d hze
        have h5 := HF.out.m z hz
        have h6 := HLZ.out z hz
        rw [h4] at h6
        omega
      have hde := do_any D (fun b => S b ∧ b < w3.heap.size) (fun b => T b ∧ b < w3.heap.size) w3.heap.size p' hbd ⟨fun h => Nat.lt_irrefl _ h.2, fun h => Nat.lt_irrefl _ h.2⟩ (hpo.tight.keep (Fr.of_below hBD No) (fun _ _ hn => hn) fun _ _ hn => hn) (by rw [hpk]; exact hrt.1) (by rw [hpn]; exact HF.out.n) hml (fun b hb => by omega) (fun b hb => by omega) (fun h2 => by rw [hes]; exact may_rise HMB.out.symm (hpk.symm.trans h2)) ⟨ok, os, ot, oA, om, oc, od⟩ ((HOP.out.below HB3.out).below hBD) hm2 ⟨hrt.2.1, hrt.2.2.1⟩
      rw [hpk, hes] at hde
      simp only [OV.agg] at hde
      obtain ⟨R, hR⟩ : ∃ R, R = doM pk (⟨pk, ps, px, pA, n, pc, l⟩ : PV).es ok os ot od := ⟨_, rfl⟩
      rw [← hR] at hde
      have hgoal : DoM pk (⟨pk, ps, px, pA, n, pc, l⟩ : PV).es ok os ot om od = R := by
        unfold DoM
        have h1 := HMB.out
        have h2 := HRB.out
        rw [← h1, ← h2, if_pos rfl, if_pos rfl, hR]
      have HGOAL := Lib.hid hgoal
      have HDE := Lib.hid hde
      have HBD := Lib.hid hBD
      have HSD := Lib.hid hszd
      clear hpo hS hT hes hpk hps hpx hpn hb3 hBD hbd hszd hml hrt hde hR hgoal
      go_wp2_with fail
      refine HDE.out.mono ?_
      intro e w4 hd
      have hfr : Fr D w4 (fun b => b = w3.heap.size ∨ (S b ∧ b < w3.heap.size)) := by
        by_cases h0 : R.1 = 0
        · obtain ⟨_, _, _, _, _, _, _, _, _, _, hf, _⟩ := hd.1 h0
          exact hf
        · exact (hd.2 h0).2
      have hnz : ∀ b, (b = w3.heap.size ∨ S b ∧ b < w3.heap.size) → W.heap.size ≤ b := fun b hb => hb.elim (fun e => by have := HB3.out.size; omega) fun h => HSS.out.1 b h.1
      have hBF : Below W.heap.size W w4 := HB3.out.trans ((HBD.out.mono HB3.out.size).trans (hfr.below hnz (by have := HB3.out.size; have := HSD.out; omega)))
      have HBF := Lib.hid hBF
      have hbr := HBR.out.below hBF (by have := HSZ.out; have := HS1.out; have := HS2.out; omega)
      have HBR4 := Lib.hid hbr
      by_cases h0 : R.1 = 0
      · obtain ⟨p2, S', T', rfl, hb', hpo', hes', hx', hS', hT', _, _⟩ := hd.1 h0
        obtain ⟨u0, u1, u2, u3⟩ := pcs_cells hb'
        have HPO2 := Lib.hid hpo'
        have HES2 := Lib.hid (show p2.es = R.2 ∧ p2.k = pk ∧ p2.s = ps ∧ p2.x = px from ⟨hes', hx'.1.trans HXS.out.2.2, hx'.2.1.trans HXS.out.1, hx'.2.2.trans HXS.out.2.1⟩)
        have HST := Lib.hid (show (∀ b, S' b → W.heap.size ≤ b) ∧ ∀ b, T' b → W.heap.size ≤ b by
          have := HB3.out.size
          have := HSD.out
          refine ⟨fun b hb => ?_, fun b hb => ?_⟩
          · rcases hS' b hb with h | h
            · exact HSS.out.1 b h.1
            · omega
          · rcases hT' b hb with h | h
            · exact HSS.out.2 b h.1
            · omega)
        have HR0 := Lib.hid h0
        clear hd hfr hnz hBF hb' hpo' hes' hx' hS' hT' h0 s0 s1 s2 s3
        have hbz := HBR4.out
        have r0 := hbz.cell 0
        have r1 := hbz.cell 1
        have r2 := hbz.cell 2
        have r3 := hbz.cell 3
        have q0 := hbz.frozen 0
        have q1 := hbz.frozen 1
        have q2 := hbz.frozen 2
        have q3 := hbz.frozen 3
        simp only [List.getElem?_toArray, List.getElem?_cons_zero, List.getElem?_cons_succ] at r0 r1 r2 r3
        obtain ⟨G, hG⟩ : ∃ G, (((w4.setCell ⟨W2.heap.size, 0, none⟩ (.int .i64 p2.k)).setCell ⟨W2.heap.size, 1, none⟩ (.int .u64 (p2.s : Int))).setCell ⟨W2.heap.size, 2, none⟩ (.int .u32 (p2.x : Int))).setCell ⟨W2.heap.size, 3, none⟩ (.slice p2.A p2.n p2.c) = G := ⟨_, rfl⟩
        have hbg : Blk G W2.heap.size 26 #[.int .i64 p2.k, .int .u64 (p2.s : Int), .int .u32 (p2.x : Int), (.slice p2.A p2.n p2.c)] := by rw [← hG]; exact (((hbz.set_ 0 _).set_ 1 _).set_ 2 _).set_ 3 _
        have hfG : Fr w4 G (fun b => b = W2.heap.size) := by
          rw [← hG]
          exact fr_set (fr_set (fr_set (fr_set (Fr.refl _ _) _ _) _ _) _ _) _ _
        have g0 := hbg.cell 0
        have g1 := hbg.cell 1
        have g2 := hbg.cell 2
        have g3 := hbg.cell 3
        simp only [List.getElem?_toArray, List.getElem?_cons_zero, List.getElem?_cons_succ] at g0 g1 g2 g3
        have HFG := Lib.hid hfG
        clear hbg hfG
        clear hbz
        go_wp2_with fail
        refine bodyPost_ret (v := .tuple #[p2.agg, .int .i64 0]) (by simp [results, Try.results30, go_sem, g0, g1, g2, g3, PV.agg]) rfl ?_
        rw [HGOAL.out]
        refine ⟨p2, S', T', by rw [HR0.out], HPO2.out.keep HFG.out (fun b hb e => by have := HST.out.1 b hb; have := HSZ.out; have := HS1.out; have := HS2.out; omega) (fun b hb e => by have := HST.out.2 b hb; have := HSZ.out; have := HS1.out; have := HS2.out; omega), fun b hb => Nat.le_trans HBW.out.size (HST.out.1 b hb), fun b hb => Nat.le_trans HBW.out.size (HST.out.2 b hb), HEND.out _ _ HBF.out HFG.out, fun _ => HES2.out, fun h => absurd HR0.out h⟩
      · obtain ⟨rfl, _⟩ := hd.2 h0
        have ne0 : (R.1 != 0) = true := bne_iff_ne.2 h0
        have HR0 := Lib.hid h0
        clear hd hfr hnz hBF h0 s0 s1 s2 s3
        have hbz := HBR4.out
        have r0 := hbz.cell 0
        have r1 := hbz.cell 1
        have r2 := hbz.cell 2
        have r3 := hbz.cell 3
        have q0 := hbz.frozen 0
        have q1 := hbz.frozen 1
        have q2 := hbz.frozen 2
        have q3 := hbz.frozen 3
        simp only [List.getElem?_toArray, List.getElem?_cons_zero, List.getElem?_cons_succ] at r0 r1 r2 r3
        obtain ⟨G, hG⟩ : ∃ G, (((w4.setCell ⟨W2.heap.size, 0, none⟩ (.int .i64 0)).setCell ⟨W2.heap.size, 1, none⟩ (.int .u64 0)).setCell ⟨W2.heap.size, 2, none⟩ (.int .u32 0)).setCell ⟨W2.heap.size, 3, none⟩ (.slice none 0 0) = G := ⟨_, rfl⟩
        have hbg : Blk G W2.heap.size 26 #[.int .i64 0, .int .u64 0, .int .u32 0, (.slice none 0 0)] := by rw [← hG]; exact (((hbz.set_ 0 _).set_ 1 _).set_ 2 _).set_ 3 _
        have hfG : Fr w4 G (fun b => b = W2.heap.size) := by
          rw [← hG]
          exact fr_set (fr_set (fr_set (fr_set (Fr.refl _ _) _ _) _ _) _ _) _ _
        have g0 := hbg.cell 0
        have g1 := hbg.cell 1
        have g2 := hbg.cell 2
        have g3 := hbg.cell 3
        simp only [List.getElem?_toArray, List.getElem?_cons_zero, List.getElem?_cons_succ] at g0 g1 g2 g3
        have HFG := Lib.hid hfG
        clear hbg hfG
        clear hbz
        go_wp2_with fail
        refine bodyPost_ret (v := .tuple #[PV.zero.agg, .int .i64 R.1]) (by simp [results, Try.results30, go_sem, g0, g1, g2, g3, PV.agg, PV.zero]) rfl ?_
        rw [HGOAL.out]
        refine ⟨PV.zero, fun b => w.heap.size ≤ b, fun b => w.heap.size ≤ b, rfl, PO.zero _ _ _, fun _ h => h, fun _ h => h, HEND.out _ _ HBF.out HFG.out, fun h => absurd h HR0.out, fun _ => rfl⟩
end Go.Proofs.Ytajmpoanmdgmpaa
