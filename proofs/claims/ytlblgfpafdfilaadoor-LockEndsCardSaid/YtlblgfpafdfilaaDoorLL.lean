/-
  STAGE 12: copied.
-/
import Derived.Test.YtlblgfpafdfilaaDoorLK
import Derived.Test.YtlblgfpafdfilaaDoorUW
namespace Go.Proofs.YtlblgfpafdfilaaDoor
open Go.RowKit Go.Sort

/-- a thing's two ends, as they lie in its box -/
def Ends (w : World) (g : Nat) (a b : ByteArray) : Prop := w.cell? ⟨g, 2, none⟩ = some (.string a) ∧ w.cell? ⟨g, 3, none⟩ = some (.string b) ∧ w.frozen? ⟨g, 2, none⟩ = false ∧ w.frozen? ⟨g, 3, none⟩ = false
theorem blk36_set {w : World} {g : Nat} {x : Th} (h : Blk w g 36 (tcs x)) : Blk (w.setCell ⟨g, 2, none⟩ (.string x.a)) g 36 (tcs x) ∧ Blk (w.setCell ⟨g, 3, none⟩ (.string x.b)) g 36 (tcs x) := ⟨h.set_ 2 _, h.set_ 3 _⟩
theorem below_drew {w w1 : World} (h : RowKit.Below w.drew.heap.size w.drew w1) : RowKit.Below w.heap.size w w1 := ((Below.refl w.heap.size w).drew).trans h
set_option maxRecDepth 100000 in
set_option maxHeartbeats 2000000 in
theorem copied_any (x : Th) (w : World) (hA : x.a.size ≤ 281474976710656) (hB : x.b.size ≤ 281474976710656) : Calls Tryd.prog 44 #[x.agg] w fun e w' => e = .returned x.agg ∧ Below w.heap.size w w' := by
  obtain ⟨W, hW, hb, bx, by_, hsz⟩ := boxes36 w x ⟨false, 0, ⟨#[]⟩, ⟨#[]⟩⟩
  obtain ⟨g, hg⟩ : ∃ g, g = w.heap.size := ⟨_, rfl⟩
  rw [← hg] at bx by_
  have HG := Lib.hid hg
  have HBW := Lib.hid hb
  have HX := Lib.hid bx
  have HY := Lib.hid by_
  have HCA := Lib.hid (fun W => cloneS_any x.a W hA)
  have HCB := Lib.hid (fun W => cloneS_any x.b W hB)
  obtain ⟨c0, c1, c2, c3⟩ := blk36 bx
  have f2 := bx.frozen 2
  have f3 := bx.frozen 3
  obtain ⟨xr, xi, xa, xb⟩ := x
  simp only [Th.agg, box36, tcs] at hW c0 c1 c2 c3 HCA HCB ⊢
  rw [show ((0 : Nat) : Int) = 0 from rfl] at hW
  clear hb bx by_ hsz hA hB
  go_enter Tryd.func44, Tryd.ntmps44
  go_upto_region 1 with fail
  clear hW
  rw [← HG.out]
  clear hg
  go_region_held3 (fun w' => w'.cell? ⟨g, 2, none⟩ = some (.string xa) ∧ w'.cell? ⟨g, 3, none⟩ = some (.string xb)) (first | exact ⟨by assumption, by assumption⟩ | (refine ⟨?_, ?_⟩ <;> go_simp)) (first
    | (go_at_call 66; with_reducible refine (HCA.out _).mono ?_; rintro e w1 ⟨rfl, hb1⟩; have HB1 := Lib.hid (below_drew hb1); have HX1 := Lib.hid (HX.out.below HB1.out HX.out.lt); have k2 := HX1.out.cell 2; have k3 := HX1.out.cell 3; simp only [tcs, List.getElem?_toArray, List.getElem?_cons_zero, List.getElem?_cons_succ] at k2 k3; clear hb1)
    | (go_at_call 66; with_reducible refine (HCB.out _).mono ?_; rintro e w2 ⟨rfl, hb2⟩; have HB2 := Lib.hid hb2; have HX2 := Lib.hid (HX1.out.below HB2.out HX1.out.lt); have q2 := HX2.out.cell 2; have q3 := HX2.out.cell 3; have r2 := HX2.out.frozen 2; have r3 := HX2.out.frozen 3; simp only [tcs, List.getElem?_toArray, List.getElem?_cons_zero, List.getElem?_cons_succ] at q2 q3; clear hb2))
  obtain ⟨w3, hw3⟩ : ∃ w3, (w2.setCell ⟨g, 2, none⟩ (.string xa)).setCell ⟨g, 3, none⟩ (.string xb) = w3 := ⟨_, rfl⟩
  have hx3 : Blk w3 g 36 (tcs ⟨xr, xi, xa, xb⟩) := by rw [← hw3]; exact (HX2.out.set_ 2 _).set_ 3 _
  have hy3 : Blk w3 (g + 1) 36 (tcs ⟨false, 0, ⟨#[]⟩, ⟨#[]⟩⟩) := by
    rw [← hw3]
    exact (((HY.out.below HB1.out HY.out.lt).below HB2.out (HY.out.below HB1.out HY.out.lt).lt).far (by simp) _).far (by simp) _
  have hf3 : Fr w2 w3 (fun b => b = g) := by rw [← hw3]; exact fr_set (fr_set (Fr.refl _ _) 2 _) 3 _
  rw [hw3]
  have HY3 := Lib.hid hy3
  have HF3 := Lib.hid hf3
  obtain ⟨c0, c1, c2, c3⟩ := blk36 hx3
  dsimp only at c0 c1 c2 c3
  clear hw3 hx3 hy3 hf3 k2 k3 q2 q3 r2 r3 f2 f3
  go_wp2_with (refine wpList_stB rfl 36 (.tmp 2) (.tmp 11) rfl (g + 1) #[.bool xr, .int .u32 (xi : Int), .string xa, .string xb] rfl rfl 36 _ HY3.out size36 rfl rfl ?_; intro w4 hz4 hf4; have HZ4 := Lib.hid hz4; have HF4 := Lib.hid hf4; clear hz4 hf4)
  refine bodyPost_ret (results_cell_row Tryd.results44 _ _ (g + 1) 36 _ (0, 0) _ rfl HZ4.out Tryd.underlying36 rfl size36) rfl ?_
  refine ⟨rfl, ?_⟩
  have hg := HG.out
  have hs := HBW.out.size
  exact HBW.out.trans ((HB1.out.mono hs).trans ((HB2.out.mono (Nat.le_trans hs HB1.out.size)).trans ((HF3.out.below (fun b hb => by omega) (Nat.le_trans (Nat.le_trans hs HB1.out.size) HB2.out.size)).trans (HF4.out.below (fun b hb => by omega) (Nat.le_trans (Nat.le_trans (Nat.le_trans hs HB1.out.size) HB2.out.size) HF3.out.size)))))
end Go.Proofs.YtlblgfpafdfilaaDoor
