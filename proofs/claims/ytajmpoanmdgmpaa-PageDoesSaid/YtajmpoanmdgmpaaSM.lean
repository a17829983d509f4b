/-
  THE WALK OF do.
-/
import Derived.Test.YtajmpoanmdgmpaaSL
import Derived.Deep.Cut
namespace Go.Proofs.Ytajmpoanmdgmpaa
open Go.RowKit

def doM (k : Int) (es : List CE) (ok os : Int) (ot : Nat) (od : List Nat) : Int × List CE :=
  if ok = 1 then putM k es (place k es os od).1 (place k es os od).2 od
  else if ok = 2 then killM es (place k es os od).1 (place k es os od).2 ot
  else if ok = 3 then wakeM es (place k es os od).1 (place k es os od).2
  else freeM k es (place k es os od).1 (place k es os od).2
theorem Did.from_ {w W w' : World} {S T : Nat → Prop} {g : Nat} {p : PV} {r : Int × List CE} {e : Ending} (hb : Below w.heap.size w W) (h : Did W S T g p r e w') : Did w S T g p r e w' := by
  have hf : Fr w W (fun b => b = g ∨ S b) := Fr.of_below hb _
  refine ⟨fun h0 => ?_, fun h0 => ?_⟩
  · obtain ⟨p', S', T', a, b, c, d, e1, f1, f2, f3, f4⟩ := h.1 h0
    refine ⟨p', S', T', a, b, c, d, e1, fun b hb' => (f1 b hb').imp id fun h => Nat.le_trans hb.size h, fun b hb' => (f2 b hb').imp id fun h => Nat.le_trans hb.size h, hf.trans f3 fun b hb => Or.inl hb, fun hw => f4 fun x hx => (hw x hx).keep (Fr.of_below hb No) fun _ _ hn => hn⟩
  · obtain ⟨a, b⟩ := h.2 h0
    exact ⟨a, hf.trans b fun b hb => Or.inl hb⟩
theorem Did.ret {w w' : World} {S T : Nat → Prop} {g : Nat} {p : PV} {r : Int × List CE} {e : Ending} (h : Did w S T g p r e w') : ∃ c : Int, e = .returned (.int .i64 c) := by
  by_cases h0 : r.1 = 0
  · obtain ⟨p', S', T', a, _⟩ := h.1 h0
    exact ⟨0, a⟩
  · exact ⟨_, (h.2 h0).1⟩
set_option maxHeartbeats 1000000 in
set_option maxRecDepth 100000 in
theorem do_put (w : World) (S T : Nat → Prop) (g : Nat) (p : PV) (hb : Blk w g 26 (pcs p)) (hg : ¬ S g ∧ ¬ T g) (ho : PO w S T p) (hk : p.k = 1 ∨ p.k = 2) (hn : p.n ≤ 300) (hml : ∀ x ∈ p.l, x.m ≤ 2000) (hSb : ∀ b, S b → b < w.heap.size) (hTb : ∀ b, T b → b < w.heap.size) (hr : p.k = 2 → rise 0 p.es = true) (op : OV) (hop : op.In w All) (hm : op.m ≤ 2000) (hok : op.k = 1) :
    Calls Try.prog 61 #[.pointer (some ⟨g, 0, none⟩), op.agg] w (Did w S T g p (putM p.k p.es (place p.k p.es op.s op.d).1 (place p.k p.es op.s op.d).2 op.d)) := by
  obtain ⟨W, hW, hBW, hbx, hsz⟩ := box_op w op
  obtain ⟨t0, t1, t2, t3⟩ := ocs_cells hbx
  have hbW := hb.below hBW hb.lt
  obtain ⟨y0, y1, y2, y3⟩ := pcs_cells hbW
  have HGS := Lib.hid (show g < W.heap.size by have := hb.lt; omega)
  have HO := Lib.hid (ho.keep (Fr.of_below hBW No) (fun _ _ hn => hn) fun _ _ hn => hn)
  have HOP := Lib.hid (hop.below hBW)
  have HBW := Lib.hid hBW
  have HBX := Lib.hid hbx
  have HSZ := Lib.hid hsz
  have HFI := Lib.hid (fun W' (hW' : Below W.heap.size W W') => find_any p op W' (HO.out.In.all.below hW') (HOP.out.below hW') hk hn hr)
  have HAC := Lib.hid (fun W' (hW' : Below W.heap.size W W') => put_any W' S T g p (hbW.below hW' HGS.out) hg (HO.out.keep (Fr.of_below hW' No) (fun _ _ hn => hn) fun _ _ hn => hn) hn hml (fun b hb => by have := hSb b hb; have := hBW.size; have := hW'.size; omega) (fun b hb => by have := hTb b hb; have := hBW.size; have := hW'.size; omega) op.s op.A op.m op.c op.d ((HOP.out.below hW').b) hm)
  obtain ⟨R, hR⟩ : ∃ R, R = putM p.k p.es (place p.k p.es op.s op.d).1 (place p.k p.es op.s op.d).2 op.d := ⟨_, rfl⟩
  rw [← hR] at HAC ⊢
  obtain ⟨at_, hat⟩ : ∃ at_, at_ = (place p.k p.es op.s op.d).1 := ⟨_, rfl⟩
  obtain ⟨th, hth⟩ : ∃ th, th = (place p.k p.es op.s op.d).2 := ⟨_, rfl⟩
  rw [← hat, ← hth] at HFI HAC
  clear hb hg ho hop hml hSb hTb hr hm hn hk hbW hBW hbx hsz hR hat hth
  obtain ⟨pk, ps, px, pA, n, pc, l⟩ := p
  obtain ⟨ok, os, ot, oA, om, oc, od⟩ := op
  simp only at hW y0 y1 y2 y3 t0 t1 t2 t3 hok
  subst hok
  simp only [PV.agg, OV.agg] at HFI HAC ⊢
  go_enter Try.func61, Try.ntmps61
  go_upto_region 1 with fail
  have z0 := fun d os => cell_regrown t0 d os
  have z1 := fun d os => cell_regrown t1 d os
  have z2 := fun d os => cell_regrown t2 d os
  have z3 := fun d os => cell_regrown t3 d os
  have v0 := fun d os => cell_regrown y0 d os
  have v1 := fun d os => cell_regrown y1 d os
  have v2 := fun d os => cell_regrown y2 d os
  have v3 := fun d os => cell_regrown y3 d os
  refine wp_region_quiet_below (by kernel_rfl) (by kernel_rfl) ?_
  repeat (go_big_quiet_step (first | (go_at_call 83; with_reducible exact Calls.regrown_of (HFI.out _ (below_regrown _ _ _)))))
  refine wpQuiet_nil ?_
  rintro W3 ⟨pp, hpp⟩
  have HB3 := Lib.hid (show Below W.heap.size W W3 by rw [hpp]; exact below_regrown _ _ _)
  obtain ⟨s0, s1, s2, s3⟩ := ocs_cells (HBX.out.below HB3.out (by have := HSZ.out; omega))
  simp only at s0 s1 s2 s3
  clear hpp z0 z1 z2 z3 v0 v1 v2 v3
  go_wp2_with fail
  refine (HAC.out _ HB3.out).mono ?_
  intro e w4 hd
  have H := Lib.hid (Did.from_ (HBW.out.trans (HB3.out.mono HBW.out.size)) hd)
  have HRET := Lib.hid (Did.ret hd)
  clear hd
  obtain ⟨c, rfl⟩ := HRET.out
  go_wp2_with fail
  go_ret
  exact H.out
set_option maxHeartbeats 1000000 in
set_option maxRecDepth 100000 in
theorem do_kill (w : World) (S T : Nat → Prop) (g : Nat) (p : PV) (hb : Blk w g 26 (pcs p)) (hg : ¬ S g ∧ ¬ T g) (ho : PO w S T p) (hk : p.k = 1 ∨ p.k = 2) (hn : p.n ≤ 300) (_hml : ∀ x ∈ p.l, x.m ≤ 2000) (_hSb : ∀ b, S b → b < w.heap.size) (_hTb : ∀ b, T b → b < w.heap.size) (hr : p.k = 2 → rise 0 p.es = true) (op : OV) (hop : op.In w All) (_hm : op.m ≤ 2000) (hok : op.k = 2) :
    Calls Try.prog 61 #[.pointer (some ⟨g, 0, none⟩), op.agg] w (Did w S T g p (killM p.es (place p.k p.es op.s op.d).1 (place p.k p.es op.s op.d).2 op.t)) := by
  obtain ⟨W, hW, hBW, hbx, hsz⟩ := box_op w op
  obtain ⟨t0, t1, t2, t3⟩ := ocs_cells hbx
  have hbW := hb.below hBW hb.lt
  obtain ⟨y0, y1, y2, y3⟩ := pcs_cells hbW
  have HGS := Lib.hid (show g < W.heap.size by have := hb.lt; omega)
  have HO := Lib.hid (ho.keep (Fr.of_below hBW No) (fun _ _ hn => hn) fun _ _ hn => hn)
  have HOP := Lib.hid (hop.below hBW)
  have HBW := Lib.hid hBW
  have HBX := Lib.hid hbx
  have HSZ := Lib.hid hsz
  have HFI := Lib.hid (fun W' (hW' : Below W.heap.size W W') => find_any p op W' (HO.out.In.all.below hW') (HOP.out.below hW') hk hn hr)
  have HAC := Lib.hid (fun W' (hW' : Below W.heap.size W W') => kill_any W' S T g p (hbW.below hW' HGS.out) hg (HO.out.keep (Fr.of_below hW' No) (fun _ _ hn => hn) fun _ _ hn => hn) hn op.s op.d op.t hop.t)
  obtain ⟨R, hR⟩ : ∃ R, R = killM p.es (place p.k p.es op.s op.d).1 (place p.k p.es op.s op.d).2 op.t := ⟨_, rfl⟩
  rw [← hR] at HAC ⊢
  obtain ⟨at_, hat⟩ : ∃ at_, at_ = (place p.k p.es op.s op.d).1 := ⟨_, rfl⟩
  obtain ⟨th, hth⟩ : ∃ th, th = (place p.k p.es op.s op.d).2 := ⟨_, rfl⟩
  rw [← hat, ← hth] at HFI HAC
  clear hb hg ho hop _hml _hSb _hTb hr _hm hn hk hbW hBW hbx hsz hR hat hth
  obtain ⟨pk, ps, px, pA, n, pc, l⟩ := p
  obtain ⟨ok, os, ot, oA, om, oc, od⟩ := op
  simp only at hW y0 y1 y2 y3 t0 t1 t2 t3 hok
  subst hok
  simp only [PV.agg, OV.agg] at HFI HAC ⊢
  go_enter Try.func61, Try.ntmps61
  go_upto_region 1 with fail
  have z0 := fun d os => cell_regrown t0 d os
  have z1 := fun d os => cell_regrown t1 d os
  have z2 := fun d os => cell_regrown t2 d os
  have z3 := fun d os => cell_regrown t3 d os
  have v0 := fun d os => cell_regrown y0 d os
  have v1 := fun d os => cell_regrown y1 d os
  have v2 := fun d os => cell_regrown y2 d os
  have v3 := fun d os => cell_regrown y3 d os
  refine wp_region_quiet_below (by kernel_rfl) (by kernel_rfl) ?_
  repeat (go_big_quiet_step (first | (go_at_call 83; with_reducible exact Calls.regrown_of (HFI.out _ (below_regrown _ _ _)))))
  refine wpQuiet_nil ?_
  rintro W3 ⟨pp, hpp⟩
  have HB3 := Lib.hid (show Below W.heap.size W W3 by rw [hpp]; exact below_regrown _ _ _)
  obtain ⟨s0, s1, s2, s3⟩ := ocs_cells (HBX.out.below HB3.out (by have := HSZ.out; omega))
  simp only at s0 s1 s2 s3
  clear hpp z0 z1 z2 z3 v0 v1 v2 v3
  go_wp2_with fail
  refine (HAC.out _ HB3.out).mono ?_
  intro e w4 hd
  have H := Lib.hid (Did.from_ (HBW.out.trans (HB3.out.mono HBW.out.size)) hd)
  have HRET := Lib.hid (Did.ret hd)
  clear hd
  obtain ⟨c, rfl⟩ := HRET.out
  go_wp2_with fail
  go_ret
  exact H.out
set_option maxHeartbeats 1000000 in
set_option maxRecDepth 100000 in
theorem do_wake (w : World) (S T : Nat → Prop) (g : Nat) (p : PV) (hb : Blk w g 26 (pcs p)) (hg : ¬ S g ∧ ¬ T g) (ho : PO w S T p) (hk : p.k = 1 ∨ p.k = 2) (hn : p.n ≤ 300) (_hml : ∀ x ∈ p.l, x.m ≤ 2000) (_hSb : ∀ b, S b → b < w.heap.size) (_hTb : ∀ b, T b → b < w.heap.size) (hr : p.k = 2 → rise 0 p.es = true) (op : OV) (hop : op.In w All) (_hm : op.m ≤ 2000) (hok : op.k = 3) :
    Calls Try.prog 61 #[.pointer (some ⟨g, 0, none⟩), op.agg] w (Did w S T g p (wakeM p.es (place p.k p.es op.s op.d).1 (place p.k p.es op.s op.d).2)) := by
  obtain ⟨W, hW, hBW, hbx, hsz⟩ := box_op w op
  obtain ⟨t0, t1, t2, t3⟩ := ocs_cells hbx
  have hbW := hb.below hBW hb.lt
  obtain ⟨y0, y1, y2, y3⟩ := pcs_cells hbW
  have HGS := Lib.hid (show g < W.heap.size by have := hb.lt; omega)
  have HO := Lib.hid (ho.keep (Fr.of_below hBW No) (fun _ _ hn => hn) fun _ _ hn => hn)
  have HOP := Lib.hid (hop.below hBW)
  have HBW := Lib.hid hBW
  have HBX := Lib.hid hbx
  have HSZ := Lib.hid hsz
  have HFI := Lib.hid (fun W' (hW' : Below W.heap.size W W') => find_any p op W' (HO.out.In.all.below hW') (HOP.out.below hW') hk hn hr)
  have HAC := Lib.hid (fun W' (hW' : Below W.heap.size W W') => wake_any W' S T g p (hbW.below hW' HGS.out) hg (HO.out.keep (Fr.of_below hW' No) (fun _ _ hn => hn) fun _ _ hn => hn) hn op.s op.d)
  obtain ⟨R, hR⟩ : ∃ R, R = wakeM p.es (place p.k p.es op.s op.d).1 (place p.k p.es op.s op.d).2 := ⟨_, rfl⟩
  rw [← hR] at HAC ⊢
  obtain ⟨at_, hat⟩ : ∃ at_, at_ = (place p.k p.es op.s op.d).1 := ⟨_, rfl⟩
  obtain ⟨th, hth⟩ : ∃ th, th = (place p.k p.es op.s op.d).2 := ⟨_, rfl⟩
  rw [← hat, ← hth] at HFI HAC
  clear hb hg ho hop _hml _hSb _hTb hr _hm hn hk hbW hBW hbx hsz hR hat hth
  obtain ⟨pk, ps, px, pA, n, pc, l⟩ := p
  obtain ⟨ok, os, ot, oA, om, oc, od⟩ := op
  simp only at hW y0 y1 y2 y3 t0 t1 t2 t3 hok
  subst hok
  simp only [PV.agg, OV.agg] at HFI HAC ⊢
  go_enter Try.func61, Try.ntmps61
  go_upto_region 1 with fail
  have z0 := fun d os => cell_regrown t0 d os
  have z1 := fun d os => cell_regrown t1 d os
  have z2 := fun d os => cell_regrown t2 d os
  have z3 := fun d os => cell_regrown t3 d os
  have v0 := fun d os => cell_regrown y0 d os
  have v1 := fun d os => cell_regrown y1 d os
  have v2 := fun d os => cell_regrown y2 d os
  have v3 := fun d os => cell_regrown y3 d os
  refine wp_region_quiet_below (by kernel_rfl) (by kernel_rfl) ?_
  repeat (go_big_quiet_step (first | (go_at_call 83; with_reducible exact Calls.regrown_of (HFI.out _ (below_regrown _ _ _)))))
  refine wpQuiet_nil ?_
  rintro W3 ⟨pp, hpp⟩
  have HB3 := Lib.hid (show Below W.heap.size W W3 by rw [hpp]; exact below_regrown _ _ _)
  obtain ⟨s0, s1, s2, s3⟩ := ocs_cells (HBX.out.below HB3.out (by have := HSZ.out; omega))
  simp only at s0 s1 s2 s3
  clear hpp z0 z1 z2 z3 v0 v1 v2 v3
  go_wp2_with fail
  refine (HAC.out _ HB3.out).mono ?_
  intro e w4 hd
  have H := Lib.hid (Did.from_ (HBW.out.trans (HB3.out.mono HBW.out.size)) hd)
  have HRET := Lib.hid (Did.ret hd)
  clear hd
  obtain ⟨c, rfl⟩ := HRET.out
  go_wp2_with fail
  go_ret
  exact H.out
set_option maxHeartbeats 1000000 in
set_option maxRecDepth 100000 in
theorem do_free (w : World) (S T : Nat → Prop) (g : Nat) (p : PV) (hb : Blk w g 26 (pcs p)) (hg : ¬ S g ∧ ¬ T g) (ho : PO w S T p) (hk : p.k = 1 ∨ p.k = 2) (hn : p.n ≤ 300) (_hml : ∀ x ∈ p.l, x.m ≤ 2000) (_hSb : ∀ b, S b → b < w.heap.size) (_hTb : ∀ b, T b → b < w.heap.size) (hr : p.k = 2 → rise 0 p.es = true) (op : OV) (hop : op.In w All) (_hm : op.m ≤ 2000) (hok : op.k = 4) :
    Calls Try.prog 61 #[.pointer (some ⟨g, 0, none⟩), op.agg] w (Did w S T g p (freeM p.k p.es (place p.k p.es op.s op.d).1 (place p.k p.es op.s op.d).2)) := by
  obtain ⟨W, hW, hBW, hbx, hsz⟩ := box_op w op
  obtain ⟨t0, t1, t2, t3⟩ := ocs_cells hbx
  have hbW := hb.below hBW hb.lt
  obtain ⟨y0, y1, y2, y3⟩ := pcs_cells hbW
  have HGS := Lib.hid (show g < W.heap.size by have := hb.lt; omega)
  have HO := Lib.hid (ho.keep (Fr.of_below hBW No) (fun _ _ hn => hn) fun _ _ hn => hn)
  have HOP := Lib.hid (hop.below hBW)
  have HBW := Lib.hid hBW
  have HBX := Lib.hid hbx
  have HSZ := Lib.hid hsz
  have HFI := Lib.hid (fun W' (hW' : Below W.heap.size W W') => find_any p op W' (HO.out.In.all.below hW') (HOP.out.below hW') hk hn hr)
  have HAC := Lib.hid (fun W' (hW' : Below W.heap.size W W') => free_any W' S T g p (hbW.below hW' HGS.out) hg (HO.out.keep (Fr.of_below hW' No) (fun _ _ hn => hn) fun _ _ hn => hn) hk hn op.s op.d)
  obtain ⟨R, hR⟩ : ∃ R, R = freeM p.k p.es (place p.k p.es op.s op.d).1 (place p.k p.es op.s op.d).2 := ⟨_, rfl⟩
  rw [← hR] at HAC ⊢
  obtain ⟨at_, hat⟩ : ∃ at_, at_ = (place p.k p.es op.s op.d).1 := ⟨_, rfl⟩
  obtain ⟨th, hth⟩ : ∃ th, th = (place p.k p.es op.s op.d).2 := ⟨_, rfl⟩
  rw [← hat, ← hth] at HFI HAC
  clear hb hg ho hop _hml _hSb _hTb hr _hm hn hk hbW hBW hbx hsz hR hat hth
  obtain ⟨pk, ps, px, pA, n, pc, l⟩ := p
  obtain ⟨ok, os, ot, oA, om, oc, od⟩ := op
  simp only at hW y0 y1 y2 y3 t0 t1 t2 t3 hok
  subst hok
  simp only [PV.agg, OV.agg] at HFI HAC ⊢
  go_enter Try.func61, Try.ntmps61
  go_upto_region 1 with fail
  have z0 := fun d os => cell_regrown t0 d os
  have z1 := fun d os => cell_regrown t1 d os
  have z2 := fun d os => cell_regrown t2 d os
  have z3 := fun d os => cell_regrown t3 d os
  have v0 := fun d os => cell_regrown y0 d os
  have v1 := fun d os => cell_regrown y1 d os
  have v2 := fun d os => cell_regrown y2 d os
  have v3 := fun d os => cell_regrown y3 d os
  refine wp_region_quiet_below (by kernel_rfl) (by kernel_rfl) ?_
  repeat (go_big_quiet_step (first | (go_at_call 83; with_reducible exact Calls.regrown_of (HFI.out _ (below_regrown _ _ _)))))
  refine wpQuiet_nil ?_
  rintro W3 ⟨pp, hpp⟩
  have HB3 := Lib.hid (show Below W.heap.size W W3 by rw [hpp]; exact below_regrown _ _ _)
  obtain ⟨s0, s1, s2, s3⟩ := ocs_cells (HBX.out.below HB3.out (by have := HSZ.out; omega))
  simp only at s0 s1 s2 s3
  clear hpp z0 z1 z2 z3 v0 v1 v2 v3
  go_wp2_with fail
  refine (HAC.out _ HB3.out).mono ?_
  intro e w4 hd
  have H := Lib.hid (Did.from_ (HBW.out.trans (HB3.out.mono HBW.out.size)) hd)
  have HRET := Lib.hid (Did.ret hd)
  clear hd
  obtain ⟨c, rfl⟩ := HRET.out
  go_wp2_with fail
  go_ret
  exact H.out
theorem do_any (w : World) (S T : Nat → Prop) (g : Nat) (p : PV) (hb : Blk w g 26 (pcs p)) (hg : ¬ S g ∧ ¬ T g) (ho : PO w S T p) (hk : p.k = 1 ∨ p.k = 2) (hn : p.n ≤ 300) (hml : ∀ x ∈ p.l, x.m ≤ 2000) (hSb : ∀ b, S b → b < w.heap.size) (hTb : ∀ b, T b → b < w.heap.size) (hr : p.k = 2 → rise 0 p.es = true) (op : OV) (hop : op.In w All) (hm : op.m ≤ 2000) (hok : 1 ≤ op.k ∧ op.k ≤ 4) :
    Calls Try.prog 61 #[.pointer (some ⟨g, 0, none⟩), op.agg] w (Did w S T g p (doM p.k p.es op.k op.s op.t op.d)) := by
  unfold doM
  have hc : op.k = 1 ∨ op.k = 2 ∨ op.k = 3 ∨ op.k = 4 := by omega
  rcases hc with h | h | h | h
  · rw [if_pos h]; exact do_put w S T g p hb hg ho hk hn hml hSb hTb hr op hop hm h
  · rw [if_neg (by omega), if_pos h]; exact do_kill w S T g p hb hg ho hk hn hml hSb hTb hr op hop hm h
  · rw [if_neg (by omega), if_neg (by omega), if_pos h]; exact do_wake w S T g p hb hg ho hk hn hml hSb hTb hr op hop hm h
  · rw [if_neg (by omega), if_neg (by omega), if_neg (by omega)]; exact do_free w S T g p hb hg ho hk hn hml hSb hTb hr op hop hm h
end Go.Proofs.Ytajmpoanmdgmpaa
