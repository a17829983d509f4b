/-
STAGE 12: beginsAhead, alike, conflict, covers. STAGE 12: lies, conflict, covers, may. STAGE 12: may.
-/
import Derived.Test.YtlblgfpafdfilaaDoorWords
namespace Go.Proofs.YtlblgfpafdfilaaDoor
open Go.RowKit
attribute [local go_sem high] run_eqs run_neqs run_leqs run_lsss

def tcs (x : Th) : Array Value := #[.bool x.r, .int .u32 (x.i : Int), .string x.a, .string x.b]
def box36 (x : Th) : Obj := .cells (tcs x) 36
set_option maxRecDepth 100000 in
theorem ahead_any (x y : Th) (w : World) : Calls Tryd.prog 65 #[x.agg, y.agg] w fun e w' => e = .returned (.bool (aheadM x y)) ∧ Below w.heap.size w w' := by
  have HB := Lib.hid (show Below w.heap.size w ((w.alloc (box36 x)).alloc (box36 y)) from ((Below.refl _ _).alloc (Nat.le_refl _) _).alloc (by simp) _)
  obtain ⟨xr, xi, xa, xb⟩ := x
  obtain ⟨yr, yi, ya, yb⟩ := y
  unfold box36 tcs at HB
  simp only [aheadM, emp, Th.agg] at HB ⊢
  obtain ⟨f, hf⟩ : ∃ f, f = slt xa yb := ⟨_, rfl⟩
  obtain ⟨g, hg⟩ : ∃ g, g = seq yb ⟨#[]⟩ := ⟨_, rfl⟩
  rw [← hf, ← hg]
  replace hf := hf.symm
  replace hg := hg.symm
  cases g
  · go_enter Tryd.func65, Tryd.ntmps65
    go_wp2_with fail
    go_ret
    exact ⟨by simp, HB.out⟩
  · go_enter Tryd.func65, Tryd.ntmps65
    go_wp2_with fail
    go_ret
    exact ⟨by simp, HB.out⟩
set_option maxRecDepth 100000 in
theorem alike_any (x y : Th) (w : World) : Calls Tryd.prog 67 #[x.agg, y.agg] w fun e w' => e = .returned (.bool (alikeM x y)) ∧ Below w.heap.size w w' := by
  have HB := Lib.hid (show Below w.heap.size w ((w.alloc (box36 x)).alloc (box36 y)) from ((Below.refl _ _).alloc (Nat.le_refl _) _).alloc (by simp) _)
  obtain ⟨xr, xi, xa, xb⟩ := x
  obtain ⟨yr, yi, ya, yb⟩ := y
  unfold box36 tcs at HB
  simp only [alikeM, Th.agg] at HB ⊢
  have h1 : ((xi : Int) == (yi : Int)) = (xi == yi) := by rw [Bool.eq_iff_iff, beq_iff_eq, beq_iff_eq]; omega
  obtain ⟨g, hg⟩ : ∃ g, g = (xi == yi) := ⟨_, rfl⟩
  rw [← hg] at h1 ⊢
  clear hg
  cases xr <;> cases yr <;>
  · go_enter Tryd.func67, Tryd.ntmps67
    go_wp2_with fail
    go_ret
    exact ⟨by simp, HB.out⟩

theorem boxes36 (w : World) (x y : Th) : ∃ W, (w.alloc (box36 x)).alloc (box36 y) = W ∧ Below w.heap.size w W ∧ Blk W w.heap.size 36 (tcs x) ∧ Blk W (w.heap.size + 1) 36 (tcs y) ∧ W.heap.size = w.heap.size + 2 := by
  refine ⟨_, rfl, ((Below.refl w.heap.size w).alloc (Nat.le_refl _) _).alloc (by simp) _, (Blk.new w 36 (tcs x)).alloc _, ?_, by simp⟩
  have := Blk.new (w.alloc (box36 x)) 36 (tcs y)
  rwa [World.size_alloc] at this
theorem blk36 {w : World} {g : Nat} {x : Th} (h : Blk w g 36 (tcs x)) : w.cell? ⟨g, 0, none⟩ = some (.bool x.r) ∧ w.cell? ⟨g, 1, none⟩ = some (.int .u32 (x.i : Int)) ∧ w.cell? ⟨g, 2, none⟩ = some (.string x.a) ∧ w.cell? ⟨g, 3, none⟩ = some (.string x.b) :=
  ⟨h.cell 0, h.cell 1, h.cell 2, h.cell 3⟩
set_option maxRecDepth 100000 in
theorem meet_any (x y : Th) (w : World) : Calls Tryd.prog 58 #[x.agg, y.agg] w fun e w' => e = .returned (.bool (meetM x y)) ∧ Below w.heap.size w w' := by
  obtain ⟨W, hW, hb, bx, bz, hsz⟩ := boxes36 w x y
  have HB := Lib.hid hb
  have HX := Lib.hid bx
  have HY := Lib.hid bz
  have HS := Lib.hid hsz
  have HA := Lib.hid (fun W => alike_any x y W)
  have H1 := Lib.hid (fun W => ahead_any x y W)
  have H2 := Lib.hid (fun W => ahead_any y x W)
  unfold meetM
  obtain ⟨c0, c1, c2, c3⟩ := blk36 bx
  obtain ⟨d0, d1, d2, d3⟩ := blk36 bz
  obtain ⟨xr, xi, xa, xb⟩ := x
  obtain ⟨yr, yi, ya, yb⟩ := y
  generalize alikeM _ _ = g at HA ⊢
  generalize aheadM ⟨xr, xi, xa, xb⟩ ⟨yr, yi, ya, yb⟩ = g1 at H1 ⊢
  generalize aheadM ⟨yr, yi, ya, yb⟩ ⟨xr, xi, xa, xb⟩ = g2 at H2 ⊢
  simp only [Th.agg, box36, tcs] at hW HA H1 H2 c0 c1 c2 c3 d0 d1 d2 d3 ⊢
  clear hb bx bz hsz
  cases g <;> cases g1 <;>
  · go_enter Tryd.func58, Tryd.ntmps58
    go_upto_region 1 with fail
    clear hW
    go_wp2_with (first
      | (go_at_call 67; refine (HA.out _).mono ?_; rintro e w1 ⟨rfl, hb⟩; have HB1 := Lib.hid hb; obtain ⟨c0, c1, c2, c3⟩ := blk36 (HX.out.below hb HX.out.lt); obtain ⟨d0, d1, d2, d3⟩ := blk36 (HY.out.below hb HY.out.lt); clear hb)
      | (go_at_call 65; first
        | (with_reducible refine (H1.out _).mono ?_; rintro e w2 ⟨rfl, hb⟩; have HB2 := Lib.hid hb; obtain ⟨c0, c1, c2, c3⟩ := blk36 ((HX.out.below HB1.out HX.out.lt).below hb (Blk.lt (HX.out.below HB1.out HX.out.lt))); obtain ⟨d0, d1, d2, d3⟩ := blk36 ((HY.out.below HB1.out HY.out.lt).below hb (Blk.lt (HY.out.below HB1.out HY.out.lt))); clear hb)
        | (with_reducible refine (H2.out _).mono ?_; rintro e w3 ⟨rfl, hb⟩; have HB3 := Lib.hid hb; clear hb)))
    go_ret
    first
    | exact ⟨by simp, below_trans (below_trans (below_trans HB.out HB1.out) HB2.out) HB3.out⟩
    | exact ⟨by simp, below_trans (below_trans HB.out HB1.out) HB2.out⟩
    | exact ⟨by simp, below_trans HB.out HB1.out⟩
end Go.Proofs.YtlblgfpafdfilaaDoor
namespace Go.Proofs.YtlblgfpafdfilaaDoor
open Go.RowKit
attribute [local go_sem high] run_eqs run_neqs run_leqs run_lsss

set_option maxRecDepth 100000 in
set_option maxHeartbeats 1000000 in
theorem lies_any (x y : Th) (w : World) : Calls Tryd.prog 47 #[x.agg, y.agg] w fun e w' => e = .returned (.bool (liesM x y)) ∧ Below w.heap.size w w' := by
  obtain ⟨W, hW, hb, bx, bz, hsz⟩ := boxes36 w x y
  have HB := Lib.hid hb
  have HX := Lib.hid bx
  have HY := Lib.hid bz
  have HA := Lib.hid (fun W => alike_any x y W)
  obtain ⟨c0, c1, c2, c3⟩ := blk36 bx
  obtain ⟨d0, d1, d2, d3⟩ := blk36 bz
  unfold liesM emp
  obtain ⟨xr, xi, xa, xb⟩ := x
  obtain ⟨yr, yi, ya, yb⟩ := y
  generalize alikeM _ _ = g at HA ⊢
  dsimp only
  obtain ⟨p, hp⟩ : ∃ p, p = slt xa ya := ⟨_, rfl⟩
  obtain ⟨q, hq⟩ : ∃ q, q = seq yb ⟨#[]⟩ := ⟨_, rfl⟩
  obtain ⟨r, hr⟩ : ∃ r, r = seq xb ⟨#[]⟩ := ⟨_, rfl⟩
  obtain ⟨s, hs⟩ : ∃ s, s = slt yb xb := ⟨_, rfl⟩
  rw [← hp, ← hq, ← hr, ← hs]
  replace hp := hp.symm
  replace hq := hq.symm
  replace hr := hr.symm
  replace hs := hs.symm
  simp only [Th.agg, box36, tcs] at hW HA c0 c1 c2 c3 d0 d1 d2 d3 ⊢
  clear hb bx bz hsz
  cases g <;> cases p <;> cases q <;> cases r <;>
  · go_enter Tryd.func47, Tryd.ntmps47
    go_upto_region 1 with fail
    clear hW
    go_wp2_with (go_at_call 67; refine (HA.out _).mono ?_; rintro e w1 ⟨rfl, hb⟩; have HB1 := Lib.hid hb; obtain ⟨c0, c1, c2, c3⟩ := blk36 (HX.out.below hb HX.out.lt); obtain ⟨d0, d1, d2, d3⟩ := blk36 (HY.out.below hb HY.out.lt); clear hb)
    go_ret
    exact ⟨by simp, below_trans HB.out HB1.out⟩
set_option maxRecDepth 100000 in
theorem conflict_any (a b : Int) (ha : 1 ≤ a ∧ a ≤ 4) (hb : 1 ≤ b ∧ b ≤ 4) (w : World) (hg : Gw w) : Calls Tryd.prog 60 #[.int .i64 a, .int .i64 b] w fun e w' => e = .returned (.bool (conM a b)) ∧ w = w' := by
  have c1 : w.cell? ⟨1, 1, none⟩ = some (.int .u8 16) := (hg.1 1 (by decide) (by decide)).2
  have c2 : w.cell? ⟨1, 2, none⟩ = some (.int .u8 24) := (hg.1 2 (by decide) (by decide)).2
  have c3 : w.cell? ⟨1, 3, none⟩ = some (.int .u8 20) := (hg.1 3 (by decide) (by decide)).2
  have c4 : w.cell? ⟨1, 4, none⟩ = some (.int .u8 30) := (hg.1 4 (by decide) (by decide)).2
  clear hg
  obtain rfl | rfl | rfl | rfl : a = 1 ∨ a = 2 ∨ a = 3 ∨ a = 4 := by omega
  all_goals
    obtain rfl | rfl | rfl | rfl : b = 1 ∨ b = 2 ∨ b = 3 ∨ b = 4 := by omega
  all_goals
    go_enter Tryd.func60, Tryd.ntmps60
    go_wp2_with fail
    go_ret
    exact ⟨by first | rfl | (simp [conM, agT]; try decide), rfl⟩
set_option maxRecDepth 100000 in
theorem covers_any (a b : Int) (ha : 1 ≤ a ∧ a ≤ 4) (hb : 1 ≤ b ∧ b ≤ 4) (w : World) (hg : Gw w) : Calls Tryd.prog 46 #[.int .i64 a, .int .i64 b] w fun e w' => e = .returned (.bool (covM a b)) ∧ w = w' := by
  have c1 : w.cell? ⟨0, 1, none⟩ = some (.int .u8 2) := (hg.1 1 (by decide) (by decide)).1
  have c2 : w.cell? ⟨0, 2, none⟩ = some (.int .u8 6) := (hg.1 2 (by decide) (by decide)).1
  have c3 : w.cell? ⟨0, 3, none⟩ = some (.int .u8 10) := (hg.1 3 (by decide) (by decide)).1
  have c4 : w.cell? ⟨0, 4, none⟩ = some (.int .u8 30) := (hg.1 4 (by decide) (by decide)).1
  clear hg
  obtain rfl | rfl | rfl | rfl : a = 1 ∨ a = 2 ∨ a = 3 ∨ a = 4 := by omega
  all_goals
    obtain rfl | rfl | rfl | rfl : b = 1 ∨ b = 2 ∨ b = 3 ∨ b = 4 := by omega
  all_goals
    go_enter Tryd.func46, Tryd.ntmps46
    go_wp2_with fail
    go_ret
    exact ⟨by first | rfl | (simp [covM, inT]; try decide), rfl⟩
end Go.Proofs.YtlblgfpafdfilaaDoor
namespace Go.Proofs.YtlblgfpafdfilaaDoor
open Go.RowKit
attribute [local go_sem high] run_eqs run_neqs run_leqs run_lsss

theorem box1_36 (w : World) (x : Th) : ∃ W, w.alloc (box36 x) = W ∧ Below w.heap.size w W ∧ Blk W w.heap.size 36 (tcs x) ∧ W.heap.size = w.heap.size + 1 :=
  ⟨_, rfl, (Below.refl w.heap.size w).alloc (Nat.le_refl _) _, Blk.new w 36 (tcs x), by simp⟩
set_option maxRecDepth 100000 in
set_option maxHeartbeats 1000000 in
theorem may_any (x : Th) (m : Int) (hA : x.a.size ≤ 9223372036854775807) (hB : x.b.size ≤ 9223372036854775807) (w : World) : Calls Tryd.prog 41 #[x.agg, .int .i64 m] w fun e w' => e = .returned (.bool (mayM x m)) ∧ Below w.heap.size w w' := by
  obtain ⟨W, hW, hb, bx, hsz⟩ := box1_36 w x
  have HB := Lib.hid hb
  have HX := Lib.hid bx
  have HA := Lib.hid (fun W => ahead_any x x W)
  obtain ⟨c0, c1, c2, c3⟩ := blk36 bx
  unfold mayM emp
  obtain ⟨xr, xi, xa, xb⟩ := x
  generalize aheadM _ _ = g at HA ⊢
  dsimp only at hA hB ⊢
  obtain ⟨p, hp⟩ : ∃ p, p = seq xa ⟨#[]⟩ := ⟨_, rfl⟩
  obtain ⟨q, hq⟩ : ∃ q, q = seq xb ⟨#[]⟩ := ⟨_, rfl⟩
  rw [← hp, ← hq]
  replace hp := hp.symm
  replace hq := hq.symm
  simp only [Th.agg, box36, tcs] at hW HA c0 c1 c2 c3 ⊢
  clear hb bx hsz
  cases xr
  · rw [if_neg (by decide)]
    obtain ⟨m1, h1⟩ : ∃ m1, decide (m ≥ 1) = m1 := ⟨_, rfl⟩
    obtain ⟨m4, h4⟩ : ∃ m4, decide (m ≤ 4) = m4 := ⟨_, rfl⟩
    have h1' : decide (1 ≤ m) = m1 := h1
    rw [h1', h4]
    clear h1'
    cases p <;> cases q <;> cases m1 <;>
    · go_enter Tryd.func41, Tryd.ntmps41
      go_upto_region 1 with fail
      clear hW
      go_wp2_with fail
      go_ret
      exact ⟨by simp, HB.out⟩
  · rw [if_pos rfl]
    obtain ⟨z1, h1⟩ : ∃ z1, decide (xa.size ≤ 148) = z1 := ⟨_, rfl⟩
    obtain ⟨z2, h2⟩ : ∃ z2, decide (xb.size ≤ 148) = z2 := ⟨_, rfl⟩
    have h1' : decide ((xa.size : Int) ≤ 148) = z1 := by rw [← h1, decide_eq_decide]; omega
    have h2' : decide ((xb.size : Int) ≤ 148) = z2 := by rw [← h2, decide_eq_decide]; omega
    rw [h1, h2]
    obtain ⟨m3, h3⟩ : ∃ m3, (m == 3) = m3 := ⟨_, rfl⟩
    obtain ⟨m4, h4⟩ : ∃ m4, (m == 4) = m4 := ⟨_, rfl⟩
    rw [h3, h4]
    clear h1 h2
    cases z1 <;> cases z2 <;> cases g <;> cases m3 <;>
    · go_enter Tryd.func41, Tryd.ntmps41
      go_upto_region 1 with fail
      clear hW
      go_wp2_with (go_at_call 65; refine (HA.out _).mono ?_; rintro e w1 ⟨rfl, hb⟩; have HB1 := Lib.hid hb; clear hb)
      go_ret
      first
      | exact ⟨by simp, below_trans HB.out HB1.out⟩
      | exact ⟨by simp, HB.out⟩
end Go.Proofs.YtlblgfpafdfilaaDoor
