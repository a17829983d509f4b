/-
  STAGE 12: lies, conflict, covers, may.
-/
import Derived.Test.YtlblgfpafdfilaaDoorLA
namespace Go.Proofs.YtlblgfpafdfilaaDoor
open Go.RowKit
attribute [local go_sem high] run_eqs run_neqs run_leqs run_lsss

set_option maxRecDepth 100000 in
set_option maxHeartbeats 1000000 in
theorem lies_any (x y : Th) (w : World) : Calls Tryd.prog 47 #[x.agg, y.agg] w fun e w' => e = .returned (.bool (liesM x y)) ∧ Below w.heap.size w w' := by
  obtain ⟨W, hW, hb, bx, bz, hsz⟩ := boxes36 w x y
  have HB := Lib.hid hb
  have HX := Lib.hid bx
  have HY := Lib.hid bz
  have HA := Lib.hid (fun W => alike_any x y W)
  obtain ⟨c0, c1, c2, c3⟩ := blk36 bx
  obtain ⟨d0, d1, d2, d3⟩ := blk36 bz
  unfold liesM emp
  obtain ⟨xr, xi, xa, xb⟩ := x
  obtain ⟨yr, yi, ya, yb⟩ := y
  generalize alikeM _ _ = g at HA ⊢
  dsimp only
  obtain ⟨p, hp⟩ : ∃ p, p = slt xa ya := ⟨_, rfl⟩
  obtain ⟨q, hq⟩ : ∃ q, q = seq yb ⟨#[]⟩ := ⟨_, rfl⟩
  obtain ⟨r, hr⟩ : ∃ r, r = seq xb ⟨#[]⟩ := ⟨_, rfl⟩
  obtain ⟨s, hs⟩ : ∃ s, s = slt yb xb := ⟨_, rfl⟩
  rw [← hp, ← hq, ← hr, ← hs]
  replace hp := hp.symm
  replace hq := hq.symm
  replace hr := hr.symm
  replace hs := hs.symm
  simp only [Th.agg, box36, tcs] at hW HA c0 c1 c2 c3 d0 d1 d2 d3 ⊢
  clear hb bx bz hsz
  cases g <;> cases p <;> cases q <;> cases r <;>
  · go_enter Tryd.func47, Tryd.ntmps47
    go_upto_region 1 with fail
    clear hW
    go_wp2_with (go_at_call 67; refine (HA.out _).mono ?_; rintro e w1 ⟨rfl, hb⟩; have HB1 := Lib.hid hb; obtain ⟨c0, c1, c2, c3⟩ := blk36 (HX.out.below hb HX.out.lt); obtain ⟨d0, d1, d2, d3⟩ := blk36 (HY.out.below hb HY.out.lt); clear hb)
    go_ret
    exact ⟨by simp, below_trans HB.out HB1.out⟩
set_option maxRecDepth 100000 in
theorem conflict_any (a b : Int) (ha : 1 ≤ a ∧ a ≤ 4) (hb : 1 ≤ b ∧ b ≤ 4) (w : World) (hg : Gw w) : Calls Tryd.prog 60 #[.int .i64 a, .int .i64 b] w fun e w' => e = .returned (.bool (conM a b)) ∧ w = w' := by
  have c1 : w.cell? ⟨1, 1, none⟩ = some (.int .u8 16) := (hg.1 1 (by decide) (by decide)).2
  have c2 : w.cell? ⟨1, 2, none⟩ = some (.int .u8 24) := (hg.1 2 (by decide) (by decide)).2
  have c3 : w.cell? ⟨1, 3, none⟩ = some (.int .u8 20) := (hg.1 3 (by decide) (by decide)).2
  have c4 : w.cell? ⟨1, 4, none⟩ = some (.int .u8 30) := (hg.1 4 (by decide) (by decide)).2
  clear hg
  obtain rfl | rfl | rfl | rfl : a = 1 ∨ a = 2 ∨ a = 3 ∨ a = 4 := by omega
  all_goals
    obtain rfl | rfl | rfl | rfl : b = 1 ∨ b = 2 ∨ b = 3 ∨ b = 4 := by omega
  all_goals
    go_enter Tryd.func60, Tryd.ntmps60
    go_wp2_with fail
    go_ret
    exact ⟨by first | rfl | (simp [conM, agT]; try decide), rfl⟩
set_option maxRecDepth 100000 in
theorem covers_any (a b : Int) (ha : 1 ≤ a ∧ a ≤ 4) (hb : 1 ≤ b ∧ b ≤ 4) (w : World) (hg : Gw w) : Calls Tryd.prog 46 #[.int .i64 a, .int .i64 b] w fun e w' => e = .returned (.bool (covM a b)) ∧ w = w' := by
  have c1 : w.cell? ⟨0, 1, none⟩ = some (.int .u8 2) := (hg.1 1 (by decide) (by decide)).1
  have c2 : w.cell? ⟨0, 2, none⟩ = some (.int .u8 6) := (hg.1 2 (by decide) (by decide)).1
  have c3 : w.cell? ⟨0, 3, none⟩ = some (.int .u8 10) := (hg.1 3 (by decide) (by decide)).1
  have c4 : w.cell? ⟨0, 4, none⟩ = some (.int .u8 30) := (hg.1 4 (by decide) (by decide)).1
  clear hg
  obtain rfl | rfl | rfl | rfl : a = 1 ∨ a = 2 ∨ a = 3 ∨ a = 4 := by omega
  all_goals
    obtain rfl | rfl | rfl | rfl : b = 1 ∨ b = 2 ∨ b = 3 ∨ b = 4 := by omega
  all_goals
    go_enter Tryd.func46, Tryd.ntmps46
    go_wp2_with fail
    go_ret
    exact ⟨by first | rfl | (simp [covM, inT]; try decide), rfl⟩
end Go.Proofs.YtlblgfpafdfilaaDoor
