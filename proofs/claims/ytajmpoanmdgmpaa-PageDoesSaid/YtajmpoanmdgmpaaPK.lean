/-
  THE WALKS OF do AND Do, FOR A Put INTO A HEAP.
-/
import Derived.Test.YtajmpoanmdgmpaaPJ
namespace Go.Proofs.Ytajmpoanmdgmpaa
open Go.RowKit

/-- a Put that is right for a heap -/
structure Putting (o : OV) : Prop where
  k : o.k = 1
  t : o.t = 0
  m1 : 1 ≤ o.m
  m2 : o.m ≤ 180
theorem right_op (o : OV) (w : World) (h : Putting o) : Calls Try.prog 35 #[.int .i64 1, o.agg] w fun e w' => e = .returned (.bool true) ∧ Below w.heap.size w w' := by
  have := right_put o.s o.A o.m o.c w h.m1 h.m2
  have e : o.agg = .agg #[.int .i64 1, .int .i64 o.s, .int .u32 0, .slice o.A o.m o.c] := by rw [OV.agg, h.k, h.t]; rfl
  rw [e]
  exact this
def DoEnd (w : World) (S T : Nat → Prop) (g : Nat) (p : PV) (d : List Nat) (e : Ending) (w' : World) : Prop :=
  ∃ p' S' T', e = .returned (.int .i64 0) ∧ Blk w' g 26 (pcs p') ∧ PO w' S' T' p' ∧ p'.es = p.es ++ [⟨true, 0, d⟩] ∧ p'.k = p.k ∧ p'.s = p.s ∧ p'.x = p.x ∧ (∀ b, S' b → S b ∨ w.heap.size ≤ b) ∧ (∀ b, T' b → T b ∨ w.heap.size ≤ b) ∧ Fr w w' (fun b => b = g ∨ S b)
set_option maxHeartbeats 1000000 in
set_option maxRecDepth 100000 in
theorem do_end (w : World) (S T : Nat → Prop) (g : Nat) (p : PV) (hb : Blk w g 26 (pcs p)) (hg : ¬ S g ∧ ¬ T g) (ho : PO w S T p) (hk : p.k = 1) (hn : p.n < 60) (hf : Few p) (op : OV) (hop : op.In w All) (hp : Putting op) (hs : op.s = (p.n : Int)) (hz : psz p.es + 6 + op.m ≤ 512) :
    Calls Try.prog 61 #[.pointer (some ⟨g, 0, none⟩), op.agg] w (DoEnd w S T g p op.d) := by
  obtain ⟨W, hW, hBW, hbx, hsz⟩ := box_op w op
  obtain ⟨t0, t1, t2, t3⟩ := ocs_cells hbx
  have hbW := hb.below hBW hb.lt
  obtain ⟨y0, y1, y2, y3⟩ := pcs_cells hbW
  have HB := Lib.hid hbW
  have HGS := Lib.hid (show g < W.heap.size by have := hb.lt; omega)
  have hot := ho.tight
  have HO := Lib.hid (hot.keep (Fr.of_below hBW No) (fun _ _ hn => hn) fun _ _ hn => hn)
  have HOP := Lib.hid (hop.below hBW)
  have HBW := Lib.hid hBW
  have HBX := Lib.hid hbx
  have HSZ := Lib.hid hsz
  have HF := Lib.hid hf
  have HG := Lib.hid hg
  have HZ := Lib.hid hz
  have HFI := Lib.hid (fun W' (hW' : Below W.heap.size W W') => find_heap p op W' (HO.out.In.all.below hW') hk (by omega) p.n hs false (Or.inl ⟨Nat.le_refl _, rfl⟩))
  have HPE := Lib.hid (fun W' (hW' : Below W.heap.size W W') => put_end W' (fun b => S b ∧ b < w.heap.size) (fun b => T b ∧ b < w.heap.size) g p (hbW.below hW' HGS.out) ⟨fun h => hg.1 h.1, fun h => hg.2 h.1⟩ (HO.out.keep (Fr.of_below hW' No) (fun _ _ hn => hn) fun _ _ hn => hn) hk hn hf op.A op.m op.c op.d ((HOP.out.below hW').b) hp.m2 hz)
  obtain ⟨pk, ps, px, pA, n, pc, l⟩ := p
  obtain ⟨ok, os, ot, oA, om, oc, od⟩ := op
  have hpk := hp.k
  have hpt := hp.t
  simp only at hW y0 y1 y2 y3 t0 t1 t2 t3 hs hn hk hpk hpt
  subst hk hs hpk
  clear hpt
  simp only [PV.agg, OV.agg] at HFI HPE ⊢
  clear hb hg ho hf hop hp hz hbW hot hBW hbx hsz
  go_enter Try.func61, Try.ntmps61
  go_upto_region 1 with fail
  have z0 := fun d os => cell_regrown t0 d os
  have z1 := fun d os => cell_regrown t1 d os
  have z2 := fun d os => cell_regrown t2 d os
  have z3 := fun d os => cell_regrown t3 d os
  have v0 := fun d os => cell_regrown y0 d os
  have v1 := fun d os => cell_regrown y1 d os
  have v2 := fun d os => cell_regrown y2 d os
  have v3 := fun d os => cell_regrown y3 d os
  refine wp_region_quiet_below (by kernel_rfl) (by kernel_rfl) ?_
  repeat (go_big_quiet_step (first | (go_at_call 83; with_reducible exact Calls.regrown_of (HFI.out _ (below_regrown _ _ _)))))
  refine wpQuiet_nil ?_
  rintro W3 ⟨pp, hpp⟩
  have HB3 := Lib.hid (show Below W.heap.size W W3 by rw [hpp]; exact below_regrown _ _ _)
  obtain ⟨s0, s1, s2, s3⟩ := ocs_cells (HBX.out.below HB3.out (by have := HSZ.out; omega))
  simp only at s0 s1 s2 s3
  clear hpp z0 z1 z2 z3 v0 v1 v2 v3
  go_wp2_with fail
  refine (HPE.out _ HB3.out).mono ?_
  rintro e w4 ⟨p', S', T', rfl, hb', ho', h1, h2, h3, h4, h5, h6, h7⟩
  have H := Lib.hid (show DoEnd w S T g ⟨1, ps, px, pA, n, pc, l⟩ od (.returned (.int .i64 0)) w4 from
    ⟨p', S', T', rfl, hb', ho', h1, h2, h3, h4, fun b hb => (h5 b hb).elim (fun h => Or.inl h.1) fun h => Or.inr (by have := HB3.out.size; have := HSZ.out; omega), fun b hb => (h6 b hb).elim (fun h => Or.inl h.1) fun h => Or.inr (by have := HB3.out.size; have := HSZ.out; omega),
      (Fr.of_below (HBW.out.trans (HB3.out.mono HBW.out.size)) _).trans h7 fun b hb => Or.inl (hb.imp id fun h => h.1)⟩)
  clear hb' ho' h1 h2 h3 h4 h5 h6 h7
  go_wp2_with fail
  go_ret
  exact H.out
set_option maxHeartbeats 1000000 in
set_option maxRecDepth 100000 in
theorem do_there (w : World) (g : Nat) (p : PV) (hb : Blk w g 26 (pcs p)) (hi : p.In w All All) (hk : p.k = 1) (hn : p.n ≤ 300) (op : OV) (hp : Putting op) (s : Nat) (hs : op.s = (s : Int)) (x : CE) (hx : p.es[s]? = some x) (hu : x.u = true) :
    Calls Try.prog 61 #[.pointer (some ⟨g, 0, none⟩), op.agg] w fun e w' => e = .returned (.int .i64 7) ∧ Below w.heap.size w w' := by
  obtain ⟨W, hW, hBW, hbx, hsz⟩ := box_op w op
  obtain ⟨t0, t1, t2, t3⟩ := ocs_cells hbx
  have hbW := hb.below hBW hb.lt
  obtain ⟨y0, y1, y2, y3⟩ := pcs_cells hbW
  have HGS := Lib.hid (show g < W.heap.size by have := hb.lt; omega)
  have HBW := Lib.hid hBW
  have HBX := Lib.hid hbx
  have HSZ := Lib.hid hsz
  have hsn : s < p.n := by
    rw [← hi.len]
    rcases Nat.lt_or_ge s p.es.length with h' | h'
    · exact h'
    · rw [List.getElem?_eq_none h'] at hx; cases hx
  have HFI := Lib.hid (fun W' (hW' : Below W.heap.size W W') => find_heap p op W' ((hi.below hBW).below hW') hk hn s hs true (Or.inr ⟨x, hx, hu⟩))
  have HPE := Lib.hid (fun W' (hW' : Below W.heap.size W W') => put_there W' g p (hbW.below hW' HGS.out) hn s hsn op.A op.m op.c)
  obtain ⟨pk, ps, px, pA, n, pc, l⟩ := p
  obtain ⟨ok, os, ot, oA, om, oc, od⟩ := op
  have hpk := hp.k
  have hpt := hp.t
  simp only at hW y0 y1 y2 y3 t0 t1 t2 t3 hs hn hk hpk hpt
  subst hk hs hpk
  clear hpt
  simp only [PV.agg, OV.agg] at HFI HPE ⊢
  clear hb hi hp hbW hBW hbx hsz hx hsn
  go_enter Try.func61, Try.ntmps61
  go_upto_region 1 with fail
  have z0 := fun d os => cell_regrown t0 d os
  have z1 := fun d os => cell_regrown t1 d os
  have z2 := fun d os => cell_regrown t2 d os
  have z3 := fun d os => cell_regrown t3 d os
  have v0 := fun d os => cell_regrown y0 d os
  have v1 := fun d os => cell_regrown y1 d os
  have v2 := fun d os => cell_regrown y2 d os
  have v3 := fun d os => cell_regrown y3 d os
  refine wp_region_quiet_below (by kernel_rfl) (by kernel_rfl) ?_
  repeat (go_big_quiet_step (first | (go_at_call 83; with_reducible exact Calls.regrown_of (HFI.out _ (below_regrown _ _ _)))))
  refine wpQuiet_nil ?_
  rintro W3 ⟨pp, hpp⟩
  have HB3 := Lib.hid (show Below W.heap.size W W3 by rw [hpp]; exact below_regrown _ _ _)
  obtain ⟨s0, s1, s2, s3⟩ := ocs_cells (HBX.out.below HB3.out (by have := HSZ.out; omega))
  simp only at s0 s1 s2 s3
  clear hpp z0 z1 z2 z3 v0 v1 v2 v3
  go_wp2_with fail
  refine (HPE.out _ HB3.out).mono ?_
  rintro e w4 ⟨rfl, rfl⟩
  go_wp2_with fail
  go_ret
  exact ⟨rfl, HBW.out.trans (HB3.out.mono HBW.out.size)⟩
/-- what Do of a Put answers: a page of one's own -/
def DoO (w : World) (k : Int) (s x : Nat) (es : List CE) (e : Ending) (w' : World) : Prop :=
  ∃ p : PV, e = .returned (.tuple #[p.agg, .int .i64 0]) ∧ p.In w' All All ∧ p.es = es ∧ p.k = k ∧ p.s = s ∧ p.x = x ∧ Below w.heap.size w w'
set_option maxHeartbeats 2000000 in
set_option maxRecDepth 100000 in
theorem Do_end (w : World) (p : PV) (h : p.In w All All) (hk : p.k = 1) (hn : p.n < 60) (hf : Few p) (hmay : may 1 p.es = true) (op : OV) (hop : op.In w All) (hp : Putting op) (hs : op.s = (p.n : Int)) (hz : psz p.es + 6 + op.m ≤ 512) :
    Calls Try.prog 30 #[p.agg, op.agg] w (DoO w 1 p.s p.x (p.es ++ [⟨true, 0, op.d⟩])) := by
  obtain ⟨W1, hW1, hBW1, hbx1, hsz1⟩ := box_page w p
  obtain ⟨W2, hW2, hBW2, hbx2, hsz2⟩ := box_op W1 op
  obtain ⟨W, hW⟩ : ∃ W, W2.alloc (.cells #[.int .i64 0, .int .u64 0, .int .u32 0, .slice none 0 0] 26) = W := ⟨_, rfl⟩
  have hB3 : Below W2.heap.size W2 W := by rw [← hW]; exact (Below.refl _ _).alloc (Nat.le_refl _) _
  have hBW : Below w.heap.size w W := (hBW1.trans (hBW2.mono hBW1.size)).trans (hB3.mono (by omega))
  have hbx : Blk W w.heap.size 26 (pcs p) := (hbx1.below hBW2 (by omega)).below hB3 (by omega)
  have hbo : Blk W W1.heap.size 46 (ocs op) := hbx2.below hB3 (by omega)
  have hbr : Blk W W2.heap.size 26 #[.int .i64 0, .int .u64 0, .int .u32 0, .slice none 0 0] := by rw [← hW]; exact Blk.new W2 26 _
  have hsz : W.heap.size = w.heap.size + 3 := by rw [← hW]; simp; omega
  obtain ⟨y0, y1, y2, y3⟩ := pcs_cells hbx
  have hmy := may_any p W (h.below hBW) hf
  rw [hk, hmay] at hmy
  have HM := Lib.hid hmy
  have HR := Lib.hid (fun W' => right_op op W' hp)
  have HC := Lib.hid (fun W' (hW' : Below W.heap.size W W') => copied_any p W' ((h.below hBW).below hW') hf)
  have HBW := Lib.hid hBW
  have HBX := Lib.hid hbx
  have HBO := Lib.hid hbo
  have HBR := Lib.hid hbr
  have HSZ := Lib.hid hsz
  have HS1 := Lib.hid hsz1
  have HS2 := Lib.hid hsz2
  have HF := Lib.hid hf
  have HZ := Lib.hid hz
  have HP := Lib.hid hp
  have HOP := Lib.hid (hop.below hBW)
  have HLZ := Lib.hid (fun z hz => (h.r.2.1 z hz).len)
  have hpk := hp.k
  have hpt := hp.t
  obtain ⟨pk, ps, px, pA, n, pc, l⟩ := p
  obtain ⟨ok, os, ot, oA, om, oc, od⟩ := op
  simp only at hW1 hW2 y0 y1 y2 y3 hs hn hk hpk hpt
  subst hk hs hpk
  clear hpt
  simp only [PV.agg, OV.agg] at HM HR HC ⊢
  clear h hf hmay hop hp hz hbx hbo hbr hBW hBW1 hBW2 hB3 hsz hsz1 hsz2 hbx1 hbx2 hmy
  go_enter Try.func30, Try.ntmps30
  go_wp2_with fail
  refine HM.out.mono ?_
  rintro e w1 ⟨rfl, hb1⟩
  have HB1 := Lib.hid hb1
  obtain ⟨y0, y1, y2, y3⟩ := pcs_cells (HBX.out.below hb1 (by have := HSZ.out; omega))
  obtain ⟨t0, t1, t2, t3⟩ := ocs_cells (HBO.out.below hb1 (by have := HSZ.out; have := HS1.out; omega))
  simp only at y0 y1 y2 y3 t0 t1 t2 t3
  clear hb1
  go_wp2_with fail
  refine (HR.out _).mono ?_
  rintro e w2 ⟨rfl, hb2⟩
  have HB2 := Lib.hid (HB1.out.trans (hb2.mono HB1.out.size))
  obtain ⟨y0, y1, y2, y3⟩ := pcs_cells (HBX.out.below HB2.out (by have := HSZ.out; omega))
  simp only at y0 y1 y2 y3
  clear hb2
  go_wp2_with fail
  refine (HC.out _ HB2.out).mono ?_
  rintro e w3 ⟨p', S, T, rfl, hpo, hS, hT, hes, hpk, hps, hpx, hpn, hb3⟩
  have HB3 := Lib.hid (HB2.out.trans (hb3.mono HB2.out.size))
  have HPO := Lib.hid hpo.tight
  have HES := Lib.hid hes
  have HNN := Lib.hid hpn
  have hw2 : W.heap.size ≤ w2.heap.size := HB2.out.size
  have HSS := Lib.hid (show ∀ b, S b → W.heap.size ≤ b from fun b hb => Nat.le_trans hw2 (hS b hb))
  have HTT := Lib.hid (show ∀ b, T b → W.heap.size ≤ b from fun b hb => Nat.le_trans hw2 (hT b hb))
  have HXS := Lib.hid (show p'.s = ps ∧ p'.x = px ∧ p'.k = 1 from ⟨hps, hpx, hpk⟩)
  obtain ⟨q0, q1, q2, q3⟩ := ocs_cells ((HBO.out.below HB3.out (by have := HSZ.out; have := HS1.out; omega)).alloc (.cells #[.int .i64 p'.k, .int .u64 (p'.s : Int), .int .u32 (p'.x : Int), .slice p'.A p'.n p'.c] 26))
  obtain ⟨D, hD, hBD, hbd, hszd⟩ := box_page w3 p'
  rw [hD] at q0 q1 q2 q3
  simp only at q0 q1 q2 q3
  have HBD := Lib.hid hBD
  have HSD := Lib.hid hszd
  have hfew' : Few p' := by
    refine ⟨by rw [hpn]; exact HF.out.n, fun y hy => ?_⟩
    have h1 : y.e ∈ p'.es := List.mem_map_of_mem hy
    rw [hes] at h1
    obtain ⟨z, hz, hze⟩ := List.mem_map.1 h1
    have h2 := (hpo.o.2.1 y hy).len
    have h4 : z.d = y.d := congrArg CE.d hze
    have h5 := HF.out.m z hz
    have h6 := HLZ.out z hz
    rw [h4] at h6
    omega
  have HDE := Lib.hid (do_end D (fun b => S b ∧ b < w3.heap.size) (fun b => T b ∧ b < w3.heap.size) w3.heap.size p' hbd ⟨fun h => Nat.lt_irrefl _ h.2, fun h => Nat.lt_irrefl _ h.2⟩ (hpo.tight.keep (Fr.of_below hBD No) (fun _ _ hn => hn) fun _ _ hn => hn) hpk (by rw [hpn]; exact hn) hfew' ⟨1, n, ot, oA, om, oc, od⟩ ((HOP.out.below HB3.out).below hBD) HP.out (by rw [hpn]) (by rw [hes]; exact HZ.out))
  simp only [OV.agg] at HDE
  clear hpo hS hT hes hpk hps hpx hpn hb3 hBD hbd hszd hfew'
  go_wp2_with fail
  refine HDE.out.mono ?_
  rintro e w4 ⟨p2, S', T', rfl, hb', hpo', hes', hk', hs', hx', hS', hT', hfr⟩
  obtain ⟨u0, u1, u2, u3⟩ := pcs_cells hb'
  have hs3 : W.heap.size ≤ w3.heap.size := HB3.out.size
  have hnz : ∀ b, (b = w3.heap.size ∨ S b ∧ b < w3.heap.size) → W.heap.size ≤ b := fun b hb => hb.elim (fun e => by omega) fun h => HSS.out b h.1
  have hbr := ((HBR.out.below HB3.out (by have := HSZ.out; have := HS1.out; have := HS2.out; omega)).below HBD.out (by have := HSZ.out; have := HS1.out; have := HS2.out; omega)).keep hfr (fun hb => by have := hnz _ hb; have := HSZ.out; have := HS1.out; have := HS2.out; omega)
  have r0 := hbr.cell 0
  have r1 := hbr.cell 1
  have r2 := hbr.cell 2
  have r3 := hbr.cell 3
  have q0' := hbr.frozen 0
  have q1' := hbr.frozen 1
  have q2' := hbr.frozen 2
  have q3' := hbr.frozen 3
  simp only [List.getElem?_toArray, List.getElem?_cons_zero, List.getElem?_cons_succ] at r0 r1 r2 r3
  obtain ⟨G, hG⟩ : ∃ G, (((w4.setCell ⟨W2.heap.size, 0, none⟩ (.int .i64 p2.k)).setCell ⟨W2.heap.size, 1, none⟩ (.int .u64 (p2.s : Int))).setCell ⟨W2.heap.size, 2, none⟩ (.int .u32 (p2.x : Int))).setCell ⟨W2.heap.size, 3, none⟩ (.slice p2.A p2.n p2.c) = G := ⟨_, rfl⟩
  have hbg : Blk G W2.heap.size 26 #[.int .i64 p2.k, .int .u64 (p2.s : Int), .int .u32 (p2.x : Int), .slice p2.A p2.n p2.c] := by rw [← hG]; exact (((hbr.set_ 0 _).set_ 1 _).set_ 2 _).set_ 3 _
  have hfG : Fr w4 G (fun b => b = W2.heap.size) := by
    rw [← hG]
    exact (((((Fr.refl w4 (fun b => b = W2.heap.size)).setCell (p := ⟨W2.heap.size, 0, none⟩) (Or.inl rfl) _).setCell (p := ⟨W2.heap.size, 1, none⟩) (Or.inl rfl) _).setCell (p := ⟨W2.heap.size, 2, none⟩) (Or.inl rfl) _).setCell (p := ⟨W2.heap.size, 3, none⟩) (Or.inl rfl) _)
  have g0 := hbg.cell 0
  have g1 := hbg.cell 1
  have g2 := hbg.cell 2
  have g3 := hbg.cell 3
  simp only [List.getElem?_toArray, List.getElem?_cons_zero, List.getElem?_cons_succ] at g0 g1 g2 g3
  clear hbg
  have hpo2 : PO G S' T' p2 := hpo'.keep hfG (fun b hb e => by
    have := HSZ.out; have := HS1.out; have := HS2.out; have := HSD.out
    rcases hS' b hb with hb | hb
    · have := HSS.out b hb.1; omega
    · omega) fun b hb e => by
    have := HSZ.out; have := HS1.out; have := HS2.out; have := HSD.out
    rcases hT' b hb with hb | hb
    · have := HTT.out b hb.1; omega
    · omega
  have HPO2 := Lib.hid hpo2
  have HES2 := Lib.hid (hes'.trans (congrArg (· ++ [⟨true, 0, od⟩]) HES.out))
  have HXS2 := Lib.hid (show p2.k = 1 ∧ p2.s = ps ∧ p2.x = px from ⟨hk'.trans HXS.out.2.2, hs'.trans HXS.out.1, hx'.trans HXS.out.2.1⟩)
  have HBG := Lib.hid (show Below w.heap.size w G from HBW.out.trans ((HB3.out.mono HBW.out.size).trans (((HBD.out.mono (by have := HBW.out.size; omega))).trans ((hfr.below (fun b hb => by have := hnz b hb; have := HBW.out.size; omega) (by have := HBW.out.size; have := HSD.out; omega)).trans (hfG.below (fun b hb => by have := HS1.out; have := HS2.out; omega) (by have := HBW.out.size; have := HSD.out; have := hfr.size; omega))))))
  clear hb' hpo' hes' hk' hs' hx' hS' hT' hfr hbr hpo2 hfG hnz
  go_wp2_with fail
  refine bodyPost_ret (v := .tuple #[p2.agg, .int .i64 0]) (by simp [results, Try.results30, go_sem, g0, g1, g2, g3, PV.agg]) rfl ?_
  exact ⟨p2, rfl, HPO2.out.In.all, HES2.out, HXS2.out.1, HXS2.out.2.1, HXS2.out.2.2, HBG.out⟩
set_option maxHeartbeats 2000000 in
set_option maxRecDepth 100000 in
theorem Do_there (w : World) (p : PV) (h : p.In w All All) (hk : p.k = 1) (hf : Few p) (hmay : may 1 p.es = true) (op : OV) (hp : Putting op) (s : Nat) (hs : op.s = (s : Int)) (x : CE) (hx : p.es[s]? = some x) (hu : x.u = true) :
    Calls Try.prog 30 #[p.agg, op.agg] w fun e w' => e = .returned (.tuple #[PV.zero.agg, .int .i64 7]) ∧ Below w.heap.size w w' := by
  obtain ⟨W1, hW1, hBW1, hbx1, hsz1⟩ := box_page w p
  obtain ⟨W2, hW2, hBW2, hbx2, hsz2⟩ := box_op W1 op
  obtain ⟨W, hW⟩ : ∃ W, W2.alloc (.cells #[.int .i64 0, .int .u64 0, .int .u32 0, .slice none 0 0] 26) = W := ⟨_, rfl⟩
  have hB3 : Below W2.heap.size W2 W := by rw [← hW]; exact (Below.refl _ _).alloc (Nat.le_refl _) _
  have hBW : Below w.heap.size w W := (hBW1.trans (hBW2.mono hBW1.size)).trans (hB3.mono (by omega))
  have hbx : Blk W w.heap.size 26 (pcs p) := (hbx1.below hBW2 (by omega)).below hB3 (by omega)
  have hbo : Blk W W1.heap.size 46 (ocs op) := hbx2.below hB3 (by omega)
  have hbr : Blk W W2.heap.size 26 #[.int .i64 0, .int .u64 0, .int .u32 0, .slice none 0 0] := by rw [← hW]; exact Blk.new W2 26 _
  have hsz : W.heap.size = w.heap.size + 3 := by rw [← hW]; simp; omega
  obtain ⟨y0, y1, y2, y3⟩ := pcs_cells hbx
  have hmy := may_any p W (h.below hBW) hf
  rw [hk, hmay] at hmy
  have HM := Lib.hid hmy
  have HR := Lib.hid (fun W' => right_op op W' hp)
  have HC := Lib.hid (fun W' (hW' : Below W.heap.size W W') => copied_any p W' ((h.below hBW).below hW') hf)
  have HBW := Lib.hid hBW
  have HBX := Lib.hid hbx
  have HBO := Lib.hid hbo
  have HBR := Lib.hid hbr
  have HSZ := Lib.hid hsz
  have HS1 := Lib.hid hsz1
  have HS2 := Lib.hid hsz2
  have HF := Lib.hid hf
  have HX := Lib.hid hx
  have HP := Lib.hid hp
  have HLZ := Lib.hid (fun z hz => (h.r.2.1 z hz).len)
  have hpk := hp.k
  have hpt := hp.t
  obtain ⟨pk, ps, px, pA, n, pc, l⟩ := p
  obtain ⟨ok, os, ot, oA, om, oc, od⟩ := op
  simp only at hW1 hW2 y0 y1 y2 y3 hs hk hpk hpt
  subst hk hs hpk
  clear hpt
  simp only [PV.agg, OV.agg] at HM HR HC ⊢
  clear h hf hmay hp hx hbx hbo hbr hBW hBW1 hBW2 hB3 hsz hsz1 hsz2 hbx1 hbx2 hmy
  go_enter Try.func30, Try.ntmps30
  go_wp2_with fail
  refine HM.out.mono ?_
  rintro e w1 ⟨rfl, hb1⟩
  have HB1 := Lib.hid hb1
  obtain ⟨y0, y1, y2, y3⟩ := pcs_cells (HBX.out.below hb1 (by have := HSZ.out; omega))
  obtain ⟨t0, t1, t2, t3⟩ := ocs_cells (HBO.out.below hb1 (by have := HSZ.out; have := HS1.out; omega))
  simp only at y0 y1 y2 y3 t0 t1 t2 t3
  clear hb1
  go_wp2_with fail
  refine (HR.out _).mono ?_
  rintro e w2 ⟨rfl, hb2⟩
  have HB2 := Lib.hid (HB1.out.trans (hb2.mono HB1.out.size))
  obtain ⟨y0, y1, y2, y3⟩ := pcs_cells (HBX.out.below HB2.out (by have := HSZ.out; omega))
  simp only at y0 y1 y2 y3
  clear hb2
  go_wp2_with fail
  refine (HC.out _ HB2.out).mono ?_
  rintro e w3 ⟨p', S, T, rfl, hpo, hS, hT, hes, hpk, hps, hpx, hpn, hb3⟩
  have HB3 := Lib.hid (HB2.out.trans (hb3.mono HB2.out.size))
  have HPO := Lib.hid hpo.tight
  have HES := Lib.hid hes
  have HNN := Lib.hid hpn
  have hw2 : W.heap.size ≤ w2.heap.size := HB2.out.size
  have HSS := Lib.hid (show ∀ b, S b → W.heap.size ≤ b from fun b hb => Nat.le_trans hw2 (hS b hb))
  have HTT := Lib.hid (show ∀ b, T b → W.heap.size ≤ b from fun b hb => Nat.le_trans hw2 (hT b hb))
  have HXS := Lib.hid (show p'.s = ps ∧ p'.x = px ∧ p'.k = 1 from ⟨hps, hpx, hpk⟩)
  obtain ⟨q0, q1, q2, q3⟩ := ocs_cells ((HBO.out.below HB3.out (by have := HSZ.out; have := HS1.out; omega)).alloc (.cells #[.int .i64 p'.k, .int .u64 (p'.s : Int), .int .u32 (p'.x : Int), .slice p'.A p'.n p'.c] 26))
  obtain ⟨D, hD, hBD, hbd, hszd⟩ := box_page w3 p'
  rw [hD] at q0 q1 q2 q3
  simp only at q0 q1 q2 q3
  have HBD := Lib.hid hBD
  have HSD := Lib.hid hszd
  have HDE := Lib.hid (do_there D w3.heap.size p' hbd (hpo.In.all.below hBD) hpk (by rw [hpn]; exact HF.out.n) ⟨1, s, ot, oA, om, oc, od⟩ HP.out s rfl x (by rw [hes]; exact HX.out) hu)
  simp only [OV.agg] at HDE
  clear hpo hS hT hes hpk hps hpx hpn hb3 hBD hbd hszd
  go_wp2_with fail
  refine HDE.out.mono ?_
  rintro e w4 ⟨rfl, hb4⟩
  have HB4 := Lib.hid (HBD.out.trans (hb4.mono (by have := HSD.out; omega)))
  have hs3 : W.heap.size ≤ w3.heap.size := HB3.out.size
  have hbr := (HBR.out.below HB3.out (by have := HSZ.out; have := HS1.out; have := HS2.out; omega)).below HB4.out (by have := HSZ.out; have := HS1.out; have := HS2.out; omega)
  have r0 := hbr.cell 0
  have r1 := hbr.cell 1
  have r2 := hbr.cell 2
  have r3 := hbr.cell 3
  have q0' := hbr.frozen 0
  have q1' := hbr.frozen 1
  have q2' := hbr.frozen 2
  have q3' := hbr.frozen 3
  simp only [List.getElem?_toArray, List.getElem?_cons_zero, List.getElem?_cons_succ] at r0 r1 r2 r3
  obtain ⟨G, hG⟩ : ∃ G, (((w4.setCell ⟨W2.heap.size, 0, none⟩ (.int .i64 0)).setCell ⟨W2.heap.size, 1, none⟩ (.int .u64 0)).setCell ⟨W2.heap.size, 2, none⟩ (.int .u32 0)).setCell ⟨W2.heap.size, 3, none⟩ (.slice none 0 0) = G := ⟨_, rfl⟩
  have hbg : Blk G W2.heap.size 26 #[.int .i64 0, .int .u64 0, .int .u32 0, .slice none 0 0] := by rw [← hG]; exact (((hbr.set_ 0 _).set_ 1 _).set_ 2 _).set_ 3 _
  have hfG : Fr w4 G (fun b => b = W2.heap.size) := by
    rw [← hG]
    exact (((((Fr.refl w4 (fun b => b = W2.heap.size)).setCell (p := ⟨W2.heap.size, 0, none⟩) (Or.inl rfl) _).setCell (p := ⟨W2.heap.size, 1, none⟩) (Or.inl rfl) _).setCell (p := ⟨W2.heap.size, 2, none⟩) (Or.inl rfl) _).setCell (p := ⟨W2.heap.size, 3, none⟩) (Or.inl rfl) _)
  have g0 := hbg.cell 0
  have g1 := hbg.cell 1
  have g2 := hbg.cell 2
  have g3 := hbg.cell 3
  simp only [List.getElem?_toArray, List.getElem?_cons_zero, List.getElem?_cons_succ] at g0 g1 g2 g3
  clear hbg
  have HBG := Lib.hid (show Below w.heap.size w G from HBW.out.trans ((HB3.out.mono HBW.out.size).trans ((HB4.out.mono (by have := HBW.out.size; omega)).trans (hfG.below (fun b hb => by have := HS1.out; have := HS2.out; omega) (by have := HBW.out.size; have := HB4.out.size; omega)))))
  clear hb4 hbr hfG
  go_wp2_with fail
  refine bodyPost_ret (v := .tuple #[PV.zero.agg, .int .i64 7]) (by simp [results, Try.results30, go_sem, g0, g1, g2, g3, PV.agg, PV.zero]) rfl ?_
  exact ⟨rfl, HBG.out⟩
end Go.Proofs.Ytajmpoanmdgmpaa
