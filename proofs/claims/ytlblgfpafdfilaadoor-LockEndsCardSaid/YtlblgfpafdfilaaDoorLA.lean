/-
  STAGE 12: beginsAhead, alike, conflict, covers.
-/
import Derived.Test.YtlblgfpafdfilaaDoorWords
namespace Go.Proofs.YtlblgfpafdfilaaDoor
open Go.RowKit
attribute [local go_sem high] run_eqs run_neqs run_leqs run_lsss

def tcs (x : Th) : Array Value := #[.bool x.r, .int .u32 (x.i : Int), .string x.a, .string x.b]
def box36 (x : Th) : Obj := .cells (tcs x) 36
set_option maxRecDepth 100000 in
theorem ahead_any (x y : Th) (w : World) : Calls Tryd.prog 65 #[x.agg, y.agg] w fun e w' => e = .returned (.bool (aheadM x y)) ∧ Below w.heap.size w w' := by
  have HB := Lib.hid (show Below w.heap.size w ((w.alloc (box36 x)).alloc (box36 y)) from ((Below.refl _ _).alloc (Nat.le_refl _) _).alloc (by simp) _)
  obtain ⟨xr, xi, xa, xb⟩ := x
  obtain ⟨yr, yi, ya, yb⟩ := y
  unfold box36 tcs at HB
  simp only [aheadM, emp, Th.agg] at HB ⊢
  obtain ⟨f, hf⟩ : ∃ f, f = slt xa yb := ⟨_, rfl⟩
  obtain ⟨g, hg⟩ : ∃ g, g = seq yb ⟨#[]⟩ := ⟨_, rfl⟩
  rw [← hf, ← hg]
  replace hf := hf.symm
  replace hg := hg.symm
  cases g
  · go_enter Tryd.func65, Tryd.ntmps65
    go_wp2_with fail
    go_ret
    exact ⟨by simp, HB.out⟩
  · go_enter Tryd.func65, Tryd.ntmps65
    go_wp2_with fail
    go_ret
    exact ⟨by simp, HB.out⟩
set_option maxRecDepth 100000 in
theorem alike_any (x y : Th) (w : World) : Calls Tryd.prog 67 #[x.agg, y.agg] w fun e w' => e = .returned (.bool (alikeM x y)) ∧ Below w.heap.size w w' := by
  have HB := Lib.hid (show Below w.heap.size w ((w.alloc (box36 x)).alloc (box36 y)) from ((Below.refl _ _).alloc (Nat.le_refl _) _).alloc (by simp) _)
  obtain ⟨xr, xi, xa, xb⟩ := x
  obtain ⟨yr, yi, ya, yb⟩ := y
  unfold box36 tcs at HB
  simp only [alikeM, Th.agg] at HB ⊢
  have h1 : ((xi : Int) == (yi : Int)) = (xi == yi) := by rw [Bool.eq_iff_iff, beq_iff_eq, beq_iff_eq]; omega
  obtain ⟨g, hg⟩ : ∃ g, g = (xi == yi) := ⟨_, rfl⟩
  rw [← hg] at h1 ⊢
  clear hg
  cases xr <;> cases yr <;>
  · go_enter Tryd.func67, Tryd.ntmps67
    go_wp2_with fail
    go_ret
    exact ⟨by simp, HB.out⟩

theorem boxes36 (w : World) (x y : Th) : ∃ W, (w.alloc (box36 x)).alloc (box36 y) = W ∧ Below w.heap.size w W ∧ Blk W w.heap.size 36 (tcs x) ∧ Blk W (w.heap.size + 1) 36 (tcs y) ∧ W.heap.size = w.heap.size + 2 := by
  refine ⟨_, rfl, ((Below.refl w.heap.size w).alloc (Nat.le_refl _) _).alloc (by simp) _, (Blk.new w 36 (tcs x)).alloc _, ?_, by simp⟩
  have := Blk.new (w.alloc (box36 x)) 36 (tcs y)
  rwa [World.size_alloc] at this
theorem blk36 {w : World} {g : Nat} {x : Th} (h : Blk w g 36 (tcs x)) : w.cell? ⟨g, 0, none⟩ = some (.bool x.r) ∧ w.cell? ⟨g, 1, none⟩ = some (.int .u32 (x.i : Int)) ∧ w.cell? ⟨g, 2, none⟩ = some (.string x.a) ∧ w.cell? ⟨g, 3, none⟩ = some (.string x.b) :=
  ⟨h.cell 0, h.cell 1, h.cell 2, h.cell 3⟩
set_option maxRecDepth 100000 in
theorem meet_any (x y : Th) (w : World) : Calls Tryd.prog 58 #[x.agg, y.agg] w fun e w' => e = .returned (.bool (meetM x y)) ∧ Below w.heap.size w w' := by
  obtain ⟨W, hW, hb, bx, bz, hsz⟩ := boxes36 w x y
  have HB := Lib.hid hb
  have HX := Lib.hid bx
  have HY := Lib.hid bz
  have HS := Lib.hid hsz
  have HA := Lib.hid (fun W => alike_any x y W)
  have H1 := Lib.hid (fun W => ahead_any x y W)
  have H2 := Lib.hid (fun W => ahead_any y x W)
  unfold meetM
  obtain ⟨c0, c1, c2, c3⟩ := blk36 bx
  obtain ⟨d0, d1, d2, d3⟩ := blk36 bz
  obtain ⟨xr, xi, xa, xb⟩ := x
  obtain ⟨yr, yi, ya, yb⟩ := y
  generalize alikeM _ _ = g at HA ⊢
  generalize aheadM ⟨xr, xi, xa, xb⟩ ⟨yr, yi, ya, yb⟩ = g1 at H1 ⊢
  generalize aheadM ⟨yr, yi, ya, yb⟩ ⟨xr, xi, xa, xb⟩ = g2 at H2 ⊢
  simp only [Th.agg, box36, tcs] at hW HA H1 H2 c0 c1 c2 c3 d0 d1 d2 d3 ⊢
  clear hb bx bz hsz
  cases g <;> cases g1 <;>
  · go_enter Tryd.func58, Tryd.ntmps58
    go_upto_region 1 with fail
    clear hW
    go_wp2_with (first
      | (go_at_call 67; refine (HA.out _).mono ?_; rintro e w1 ⟨rfl, hb⟩; have HB1 := Lib.hid hb; obtain ⟨c0, c1, c2, c3⟩ := blk36 (HX.out.below hb HX.out.lt); obtain ⟨d0, d1, d2, d3⟩ := blk36 (HY.out.below hb HY.out.lt); clear hb)
      | (go_at_call 65; first
        | (with_reducible refine (H1.out _).mono ?_; rintro e w2 ⟨rfl, hb⟩; have HB2 := Lib.hid hb; obtain ⟨c0, c1, c2, c3⟩ := blk36 ((HX.out.below HB1.out HX.out.lt).below hb (Blk.lt (HX.out.below HB1.out HX.out.lt))); obtain ⟨d0, d1, d2, d3⟩ := blk36 ((HY.out.below HB1.out HY.out.lt).below hb (Blk.lt (HY.out.below HB1.out HY.out.lt))); clear hb)
        | (with_reducible refine (H2.out _).mono ?_; rintro e w3 ⟨rfl, hb⟩; have HB3 := Lib.hid hb; clear hb)))
    go_ret
    first
    | exact ⟨by simp, below_trans (below_trans (below_trans HB.out HB1.out) HB2.out) HB3.out⟩
    | exact ⟨by simp, below_trans (below_trans HB.out HB1.out) HB2.out⟩
    | exact ⟨by simp, below_trans HB.out HB1.out⟩
end Go.Proofs.YtlblgfpafdfilaaDoor
