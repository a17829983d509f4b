/-
  THE WALKS OF CopyOp, SameOp.
-/
import Derived.Test.YtdhgbkibbileiaaGreatPQ
import Derived.Test.YtdhgbkibbileiaaGreatPG
namespace Go.Proofs.YtdhgbkibbileiaaGreat
open Go.RowKit

section
attribute [local go_sem high] run_neqL run_eqL
set_option maxRecDepth 100000 in
theorem fr_set {w w' : World} {g : Nat} (h : Fr w w' fun b => b = g) (i : Nat) (u : Value) : Fr w (w'.setCell ⟨g, i, none⟩ u) fun b => b = g := h.setCell (p := ⟨g, i, none⟩) (Or.inl rfl) u
set_option maxHeartbeats 1000000 in
set_option maxRecDepth 100000 in
theorem sameOp_any (k s : Int) (t m : Nat) (d : List Nat) (A B : Option Addr) (c cc : Nat) (w : World) (h1 : RB w All A m d) (h2 : RB w All B m d) : Calls Tryz.prog 30 #[.agg #[.int .i64 k, .int .i64 s, .int .u32 (t : Int), .slice A m c], .agg #[.int .i64 k, .int .i64 s, .int .u32 (t : Int), .slice B m cc]] w fun e w' => e = .returned (.bool true) ∧ Below w.heap.size w w' := by
  obtain ⟨W1, hW1, hBW1, hbx1, hsz1⟩ := box_op w ⟨k, s, t, A, m, c, d⟩
  obtain ⟨W, hW, hBW2, hbx2, hsz2⟩ := box_op W1 ⟨k, s, t, B, m, cc, d⟩
  have hbx := hbx1.below hBW2 (by omega)
  have hBW : Below w.heap.size w W := hBW1.trans (hBW2.mono hBW1.size)
  obtain ⟨y0, y1, y2, y3⟩ := ocs_cells hbx
  obtain ⟨t0, t1, t2, t3⟩ := ocs_cells hbx2
  have hcv1 := run_conv All A m c d W (h1.keep (Fr.of_below hBW No) fun _ _ hn => hn)
  have hcv2 := run_conv All B m cc d W (h2.keep (Fr.of_below hBW No) fun _ _ hn => hn)
  have HBW := Lib.hid hBW
  simp only at hW1 hW y0 y1 y2 y3 t0 t1 t2 t3
  have z0 : (k == k) = true := by simp
  have z1 : (s == s) = true := by simp
  have z2 : ((t : Int) == (t : Int)) = true := by simp
  have z3 : seq d d = true := by simp [seq]
  clear h1 h2 hBW1 hBW2 hbx1 hbx2 hsz1 hsz2 hbx hBW
  go_enter Tryz.func30, Tryz.ntmps30
  go_wp2
  go_ret
  exact ⟨rfl, HBW.out⟩
end
set_option maxHeartbeats 1000000 in
set_option maxRecDepth 100000 in
theorem copyOp_any (o : OV) (w : World) (h : o.In w All) (hm : o.m ≤ 2000) : Calls Tryz.prog 22 #[o.agg] w (fun e w' => ∃ A c, e = .returned (OV.agg ⟨o.k, o.s, o.t, A, o.m, c, o.d⟩) ∧ Ow w' (fun b => w.heap.size ≤ b) (.slice A o.m c) o.m o.d ∧ o.m ≤ c ∧ (A = none → c = 0) ∧ Below w.heap.size w w') := by
  obtain ⟨W1, hW1, hBW1, hbx1, hsz1⟩ := box_op w o
  obtain ⟨W, hW⟩ : ∃ W, W1.alloc (.cells #[.int .i64 0, .int .i64 0, .int .u32 0, .slice none 0 0] 26) = W := ⟨_, rfl⟩
  have hBW : Below w.heap.size w W := by rw [← hW]; exact hBW1.alloc hBW1.size _
  have hbx : Blk W w.heap.size 26 (ocs o) := by rw [← hW]; exact hbx1.alloc _
  have hbr : Blk W W1.heap.size 26 #[.int .i64 0, .int .i64 0, .int .u32 0, .slice none 0 0] := by rw [← hW]; exact Blk.new W1 26 _
  have hsz : W.heap.size = w.heap.size + 2 := by rw [← hW]; simp [hsz1]
  obtain ⟨y0, y1, y2, y3⟩ := ocs_cells hbx
  have HBW := Lib.hid hBW
  have HBX := Lib.hid hbx
  have HBR := Lib.hid hbr
  have HSZ := Lib.hid hsz
  have HSZ1 := Lib.hid hsz1
  have HCO := Lib.hid (copy_any W All o.A o.m o.c o.d (h.below hBW).b (by omega))
  have hdl : o.d.length = o.m := h.b.len
  obtain ⟨k, s, t, A, m, c, d⟩ := o
  simp only at hW1 y0 y1 y2 y3 hdl HCO hm
  simp only [OV.agg]
  clear h hBW hbx hbr hsz hBW1 hbx1 hsz1
  go_enter Tryz.func22, Tryz.ntmps22
  go_wp2_with fail
  with_reducible refine HCO.out.mono ?_
  rintro e w2 ⟨v2, rfl, hnew, hb2⟩
  obtain ⟨A2, c2, rfl, hmc2, hnz2, _⟩ := Ow.reads hnew
  rw [hdl] at hnew hmc2
  rw [hdl]
  have hbx2 := HBX.out.below hb2 (by have := HSZ.out; omega)
  have hbr2 := HBR.out.below hb2 (by have := HSZ.out; have := HSZ1.out; omega)
  have hfz := hbx2.frozen 3
  obtain ⟨n0, n1, n2, n3⟩ := ocs_cells hbx2
  simp only at n0 n1 n2 n3
  obtain ⟨E, hE⟩ : ∃ E, w2.setCell ⟨w.heap.size, 3, none⟩ (.slice A2 m c2) = E := ⟨_, rfl⟩
  have hbx3 : Blk E w.heap.size 26 #[.int .i64 k, .int .i64 s, .int .u32 (t : Int), .slice A2 m c2] := by rw [← hE]; exact hbx2.set_ 3 _
  have hbr3 : Blk E W1.heap.size 26 #[.int .i64 0, .int .i64 0, .int .u32 0, .slice none 0 0] := by rw [← hE]; exact hbr2.far (by have := HSZ1.out; simp only; omega) _
  have hfE : Fr w2 E (fun b => b = w.heap.size) := by rw [← hE]; exact fr_set (Fr.refl _ _) _ _
  have e0 := hbx3.cell 0
  have e1 := hbx3.cell 1
  have e2 := hbx3.cell 2
  have e3 := hbx3.cell 3
  simp only [List.getElem?_toArray, List.getElem?_cons_zero, List.getElem?_cons_succ] at e0 e1 e2 e3
  have r0 := hbr3.cell 0
  have r1 := hbr3.cell 1
  have r2 := hbr3.cell 2
  have r3 := hbr3.cell 3
  have q0 := hbr3.frozen 0
  have q1 := hbr3.frozen 1
  have q2 := hbr3.frozen 2
  have q3 := hbr3.frozen 3
  simp only [List.getElem?_toArray, List.getElem?_cons_zero, List.getElem?_cons_succ] at r0 r1 r2 r3
  obtain ⟨G, hG⟩ : ∃ G, (((E.setCell ⟨W1.heap.size, 0, none⟩ (.int .i64 k)).setCell ⟨W1.heap.size, 1, none⟩ (.int .i64 s)).setCell ⟨W1.heap.size, 2, none⟩ (.int .u32 (t : Int))).setCell ⟨W1.heap.size, 3, none⟩ (.slice A2 m c2) = G := ⟨_, rfl⟩
  have hbg : Blk G W1.heap.size 26 #[.int .i64 k, .int .i64 s, .int .u32 (t : Int), .slice A2 m c2] := by rw [← hG]; exact (((hbr3.set_ 0 _).set_ 1 _).set_ 2 _).set_ 3 _
  have hfG : Fr E G (fun b => b = W1.heap.size) := by
    rw [← hG]
    exact fr_set (fr_set (fr_set (fr_set (Fr.refl _ _) _ _) _ _) _ _) _ _
  have g0 := hbg.cell 0
  have g1 := hbg.cell 1
  have g2 := hbg.cell 2
  have g3 := hbg.cell 3
  simp only [List.getElem?_toArray, List.getElem?_cons_zero, List.getElem?_cons_succ] at g0 g1 g2 g3
  have HFG := Lib.hid hfG
  clear hfG hbg
  have HFE := Lib.hid hfE
  have HNEW := Lib.hid hnew
  have HB2 := Lib.hid hb2
  have HC2 := Lib.hid (show m ≤ c2 ∧ (A2 = none → c2 = 0) from ⟨hmc2, hnz2⟩)
  clear hfE hnew hb2 hmc2 hnz2 hbx2 hbr2 hbx3 hbr3 hdl hm
  go_wp2_with fail
  refine bodyPost_ret (v := .agg #[.int .i64 k, .int .i64 s, .int .u32 (t : Int), .slice A2 m c2]) (by simp [results, Tryz.results22, go_sem, g0, g1, g2, g3]) rfl ?_
  have hf : Fr w2 G (fun b => b = w.heap.size ∨ b = W1.heap.size) := ((HFE.out.mono fun _ _ h => Or.inl h).trans HFG.out fun _ h => Or.inl (Or.inr h))
  refine ⟨A2, c2, rfl, ?_, HC2.out.1, HC2.out.2, ?_⟩
  · refine (HNEW.out.keep hf fun b hb hn => ?_).mono fun b _ hb => ?_
    · have := HSZ.out; have := HSZ1.out; omega
    · have := HSZ.out; omega
  · exact HBW.out.trans ((HB2.out.mono HBW.out.size).trans (hf.below (fun b hb => by have := HSZ1.out; omega) (by have := HBW.out.size; have := HB2.out.size; omega)))
end Go.Proofs.YtdhgbkibbileiaaGreat
