/-
STAGE 12: the document's May and Within.
-/
import Derived.Test.YtlblgfpafdfilaaDoorNK
import Derived.Test.YtlblgfpafdfilaaDoorMH
namespace Go.Proofs.YtlblgfpafdfilaaDoor
open Go.RowKit Go.Sort

theorem run_gtrs (a b : ByteArray) : binOp .gtr 9 (.string a) (.string b) = pure (.bool (slt b a)) := by
  show Op.stringOp .gtr a b = _
  simp only [Op.stringOp]
  rw [bless_leq, Bool.not_not]
  rfl
theorem run_geqs (a b : ByteArray) : binOp .geq 9 (.string a) (.string b) = pure (.bool (!slt a b)) := rfl
attribute [local go_sem high] run_eqs run_neqs run_leqs run_lsss run_gtrs run_geqs
set_option maxRecDepth 100000 in
set_option maxHeartbeats 2000000 in
theorem rmay_any (x : Th) (m : Int) (hA : x.a.size ≤ 9223372036854775807) (hB : x.b.size ≤ 9223372036854775807) (w : World) : Calls Tryd.prog 51 #[x.agg, .int .i64 m] w fun e w' => e = .returned (.bool (mayM x m)) ∧ Below w.heap.size w w' := by
  obtain ⟨W, hW, hb, bx, hsz⟩ := box1_36 w x
  have HB := Lib.hid hb
  have HX := Lib.hid bx
  obtain ⟨c0, c1, c2, c3⟩ := blk36 bx
  unfold mayM aheadM emp
  obtain ⟨xr, xi, xa, xb⟩ := x
  dsimp only at hA hB ⊢
  obtain ⟨p, hp⟩ : ∃ p, p = seq xa ⟨#[]⟩ := ⟨_, rfl⟩
  obtain ⟨q, hq⟩ : ∃ q, q = seq xb ⟨#[]⟩ := ⟨_, rfl⟩
  obtain ⟨g, hg⟩ : ∃ g, g = slt xa xb := ⟨_, rfl⟩
  rw [← hp, ← hq, ← hg]
  replace hp := hp.symm
  replace hq := hq.symm
  replace hg := hg.symm
  simp only [Th.agg, box36, tcs] at hW c0 c1 c2 c3 ⊢
  clear hb bx hsz
  cases xr
  · rw [if_neg (by decide)]
    obtain ⟨m1, h1⟩ : ∃ m1, decide (m ≥ 1) = m1 := ⟨_, rfl⟩
    obtain ⟨m4, h4⟩ : ∃ m4, decide (m ≤ 4) = m4 := ⟨_, rfl⟩
    have h1' : decide (1 ≤ m) = m1 := h1
    rw [h1', h4]
    clear h1'
    cases p <;> cases q <;> cases m1 <;>
    · go_enter Tryd.func51, Tryd.ntmps51
      go_upto_region 1 with fail
      clear hW
      go_wp2_with fail
      go_ret
      exact ⟨by simp, HB.out⟩
  · rw [if_pos rfl]
    obtain ⟨z1, h1⟩ : ∃ z1, decide (xa.size > 148) = z1 := ⟨_, rfl⟩
    obtain ⟨z2, h2⟩ : ∃ z2, decide (xb.size > 148) = z2 := ⟨_, rfl⟩
    have h1' : decide ((xa.size : Int) > 148) = z1 := by rw [← h1, decide_eq_decide]; omega
    have h2' : decide ((xb.size : Int) > 148) = z2 := by rw [← h2, decide_eq_decide]; omega
    have h1'' : decide ((148 : Int) < (xa.size : Int)) = z1 := h1'
    have h2'' : decide ((148 : Int) < (xb.size : Int)) = z2 := h2'
    have e1 : decide (xa.size ≤ 148) = !z1 := by rw [← h1, ← decide_not, decide_eq_decide]; omega
    have e2 : decide (xb.size ≤ 148) = !z2 := by rw [← h2, ← decide_not, decide_eq_decide]; omega
    rw [e1, e2]
    obtain ⟨m3, h3⟩ : ∃ m3, (m == 3) = m3 := ⟨_, rfl⟩
    obtain ⟨m4, h4⟩ : ∃ m4, (m == 4) = m4 := ⟨_, rfl⟩
    rw [h3, h4]
    clear h1 h2 e1 e2
    cases z1 <;> cases z2 <;> cases q <;> cases g <;> cases m3 <;>
    · go_enter Tryd.func51, Tryd.ntmps51
      go_upto_region 1 with fail
      clear hW
      go_wp2_with fail
      go_ret
      exact ⟨by simp, HB.out⟩
set_option maxRecDepth 100000 in
set_option maxHeartbeats 1000000 in
theorem rwithin_any (x y : Th) (mx my : Int) (hx : mayM x mx = true) (hy : mayM y my = true) (w : World) : Calls Tryd.prog 52 #[x.agg, y.agg] w fun e w' => e = .returned (.bool (liesM x y)) ∧ Below w.heap.size w w' := by
  obtain ⟨W, hW, hb, bx, bz, hsz⟩ := boxes36 w x y
  have HB := Lib.hid hb
  have HX := Lib.hid bx
  have HY := Lib.hid bz
  obtain ⟨c0, c1, c2, c3⟩ := blk36 bx
  obtain ⟨d0, d1, d2, d3⟩ := blk36 bz
  have hpl : x.r = false → liesM x y = alikeM x y := fun hr => by
    unfold liesM
    cases ha : alikeM x y with
    | false => rfl
    | true =>
      have hyr : y.r = false := by
        unfold alikeM at ha
        rw [hr, Bool.and_eq_true, beq_iff_eq] at ha
        exact ha.1.symm
      have h1 := may_plain hx hr
      have h2 := may_plain hy hyr
      have hs : slt x.a y.a = false := by
        have e1 : x.a.toList = [] := by have := h1.1; unfold emp seq at this; simpa using eq_of_beq this
        have e2 : y.a.toList = [] := by have := h2.1; unfold emp seq at this; simpa using eq_of_beq this
        unfold slt
        rw [e1, e2]
        rfl
      rw [hs, h2.2]
      rfl
  have HPL := Lib.hid hpl
  unfold liesM alikeM emp at HPL
  unfold liesM alikeM emp
  obtain ⟨xr, xi, xa, xb⟩ := x
  obtain ⟨yr, yi, ya, yb⟩ := y
  dsimp only at HPL ⊢
  have h1 : ((xi : Int) != (yi : Int)) = !(xi == yi) := congrArg (!·) (nbeq xi yi)
  obtain ⟨u, hu⟩ : ∃ u, (xi == yi) = u := ⟨_, rfl⟩
  rw [hu] at h1 HPL ⊢
  obtain ⟨p, hp⟩ : ∃ p, p = slt xa ya := ⟨_, rfl⟩
  obtain ⟨q, hq⟩ : ∃ q, q = seq yb ⟨#[]⟩ := ⟨_, rfl⟩
  obtain ⟨r, hr⟩ : ∃ r, r = seq xb ⟨#[]⟩ := ⟨_, rfl⟩
  obtain ⟨s, hs⟩ : ∃ s, s = slt yb xb := ⟨_, rfl⟩
  rw [← hp, ← hq, ← hr, ← hs] at HPL ⊢
  replace hp := hp.symm
  replace hq := hq.symm
  replace hr := hr.symm
  replace hs := hs.symm
  simp only [box36, tcs, Th.agg] at hW c0 c1 c2 c3 d0 d1 d2 d3 ⊢
  clear hb bx bz hsz hu hx hy hpl
  have key : (xr = true ∧ yr = false) ∨ (xr = false ∧ yr = true) ∨ (xr = yr ∧ u = false) ∨ (xr = false ∧ yr = false ∧ u = true) ∨ (xr = true ∧ yr = true ∧ u = true ∧ p = true) ∨ (xr = true ∧ yr = true ∧ u = true ∧ p = false ∧ q = true) ∨ (xr = true ∧ yr = true ∧ u = true ∧ p = false ∧ q = false ∧ r = true) ∨ (xr = true ∧ yr = true ∧ u = true ∧ p = false ∧ q = false ∧ r = false) := by
    cases xr <;> cases yr <;> cases u <;> cases p <;> cases q <;> cases r <;> simp
  rcases key with ⟨rfl, rfl⟩ | ⟨rfl, rfl⟩ | ⟨rfl, rfl⟩ | ⟨rfl, rfl, rfl⟩ | ⟨rfl, rfl, rfl, rfl⟩ | ⟨rfl, rfl, rfl, rfl, rfl⟩ | ⟨rfl, rfl, rfl, rfl, rfl, rfl⟩ | ⟨rfl, rfl, rfl, rfl, rfl, rfl⟩ <;>
  · go_enter Tryd.func52, Tryd.ntmps52
    go_upto_region 1 with fail
    clear hW
    go_wp2_with fail
    go_ret
    refine ⟨?_, HB.out⟩
    first
    | (have e := HPL.out (by simp)
       simp at e ⊢
       exact e)
    | (simp; done)
end Go.Proofs.YtlblgfpafdfilaaDoor
