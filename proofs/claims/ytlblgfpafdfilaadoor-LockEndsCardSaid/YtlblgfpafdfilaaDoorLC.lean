/-
  STAGE 12: may.
-/
import Derived.Test.YtlblgfpafdfilaaDoorLB
namespace Go.Proofs.YtlblgfpafdfilaaDoor
open Go.RowKit
attribute [local go_sem high] run_eqs run_neqs run_leqs run_lsss

theorem box1_36 (w : World) (x : Th) : ∃ W, w.alloc (box36 x) = W ∧ Below w.heap.size w W ∧ Blk W w.heap.size 36 (tcs x) ∧ W.heap.size = w.heap.size + 1 :=
  ⟨_, rfl, (Below.refl w.heap.size w).alloc (Nat.le_refl _) _, Blk.new w 36 (tcs x), by simp⟩
set_option maxRecDepth 100000 in
set_option maxHeartbeats 1000000 in
theorem may_any (x : Th) (m : Int) (hA : x.a.size ≤ 9223372036854775807) (hB : x.b.size ≤ 9223372036854775807) (w : World) : Calls Tryd.prog 41 #[x.agg, .int .i64 m] w fun e w' => e = .returned (.bool (mayM x m)) ∧ Below w.heap.size w w' := by
  obtain ⟨W, hW, hb, bx, hsz⟩ := box1_36 w x
  have HB := Lib.hid hb
  have HX := Lib.hid bx
  have HA := Lib.hid (fun W => ahead_any x x W)
  obtain ⟨c0, c1, c2, c3⟩ := blk36 bx
  unfold mayM emp
  obtain ⟨xr, xi, xa, xb⟩ := x
  generalize aheadM _ _ = g at HA ⊢
  dsimp only at hA hB ⊢
  obtain ⟨p, hp⟩ : ∃ p, p = seq xa ⟨#[]⟩ := ⟨_, rfl⟩
  obtain ⟨q, hq⟩ : ∃ q, q = seq xb ⟨#[]⟩ := ⟨_, rfl⟩
  rw [← hp, ← hq]
  replace hp := hp.symm
  replace hq := hq.symm
  simp only [Th.agg, box36, tcs] at hW HA c0 c1 c2 c3 ⊢
  clear hb bx hsz
  cases xr
  · rw [if_neg (by decide)]
    obtain ⟨m1, h1⟩ : ∃ m1, decide (m ≥ 1) = m1 := ⟨_, rfl⟩
    obtain ⟨m4, h4⟩ : ∃ m4, decide (m ≤ 4) = m4 := ⟨_, rfl⟩
    have h1' : decide (1 ≤ m) = m1 := h1
    rw [h1', h4]
    clear h1'
    cases p <;> cases q <;> cases m1 <;>
    · go_enter Tryd.func41, Tryd.ntmps41
      go_upto_region 1 with fail
      clear hW
      go_wp2_with fail
      go_ret
      exact ⟨by simp, HB.out⟩
  · rw [if_pos rfl]
    obtain ⟨z1, h1⟩ : ∃ z1, decide (xa.size ≤ 148) = z1 := ⟨_, rfl⟩
    obtain ⟨z2, h2⟩ : ∃ z2, decide (xb.size ≤ 148) = z2 := ⟨_, rfl⟩
    have h1' : decide ((xa.size : Int) ≤ 148) = z1 := by rw [← h1, decide_eq_decide]; omega
    have h2' : decide ((xb.size : Int) ≤ 148) = z2 := by rw [← h2, decide_eq_decide]; omega
    rw [h1, h2]
    obtain ⟨m3, h3⟩ : ∃ m3, (m == 3) = m3 := ⟨_, rfl⟩
    obtain ⟨m4, h4⟩ : ∃ m4, (m == 4) = m4 := ⟨_, rfl⟩
    rw [h3, h4]
    clear h1 h2
    cases z1 <;> cases z2 <;> cases g <;> cases m3 <;>
    · go_enter Tryd.func41, Tryd.ntmps41
      go_upto_region 1 with fail
      clear hW
      go_wp2_with (go_at_call 65; refine (HA.out _).mono ?_; rintro e w1 ⟨rfl, hb⟩; have HB1 := Lib.hid hb; clear hb)
      go_ret
      first
      | exact ⟨by simp, below_trans HB.out HB1.out⟩
      | exact ⟨by simp, HB.out⟩
end Go.Proofs.YtlblgfpafdfilaaDoor
