/-
  STAGE 12: the closures of Ask, Has, waitsFor.
-/
import Derived.Test.YtlblgfpafdfilaaDoorLD
namespace Go.Proofs.YtlblgfpafdfilaaDoor
open Go.RowKit Go.Sort

theorem Cs.rg {w : World} {b o : Nat} {l : LK} (h : Cs w b o l) :
    (∀ d os, (grow (redrawn w d) os).cell? ⟨b, o, none⟩ = some (.int .u32 (l.t : Int))) ∧ (∀ d os, (grow (redrawn w d) os).cell? ⟨b, o + 1, none⟩ = some (.bool l.x.r)) ∧ (∀ d os, (grow (redrawn w d) os).cell? ⟨b, o + 2, none⟩ = some (.int .u32 (l.x.i : Int))) ∧ (∀ d os, (grow (redrawn w d) os).cell? ⟨b, o + 3, none⟩ = some (.string l.x.a)) ∧ (∀ d os, (grow (redrawn w d) os).cell? ⟨b, o + 4, none⟩ = some (.string l.x.b)) ∧ (∀ d os, (grow (redrawn w d) os).cell? ⟨b, o + 5, none⟩ = some (.int .i64 l.m)) ∧ (∀ d os, (grow (redrawn w d) os).cell? ⟨b, o + 6, none⟩ = some (.bool l.h)) :=
  ⟨fun d os => cell_regrown h.1 d os, fun d os => cell_regrown h.2.1 d os, fun d os => cell_regrown h.2.2.1 d os, fun d os => cell_regrown h.2.2.2.1 d os, fun d os => cell_regrown h.2.2.2.2.1 d os, fun d os => cell_regrown h.2.2.2.2.2.1 d os, fun d os => cell_regrown h.2.2.2.2.2.2 d os⟩
theorem nbeq (a b : Nat) : ((a : Int) == (b : Int)) = (a == b) := by rw [Bool.eq_iff_iff, beq_iff_eq, beq_iff_eq]; omega
/-- waits, of this transaction -/
def waitsP (t : Nat) (l : LK) : Bool := l.t == t && !l.h
set_option maxRecDepth 100000 in
theorem askP_any (t a : Nat) (l : LK) (b o : Nat) (W : World) (h : Cs W b o l) (ht : W.cell? ⟨a, 0, none⟩ = some (.int .u32 (t : Int))) :
    Calls Tryd.prog 43 #[.pointer (some ⟨b, o, none⟩), .pointer (some ⟨a, 0, none⟩)] W fun e w' => e = .returned (.bool (waitsP t l)) ∧ Below W.heap.size W w' := by
  obtain ⟨z0, z1, z2, z3, z4, z5, z6⟩ := h.rg
  have v0 := fun d os => cell_regrown ht d os
  have d1 := nbeq l.t t
  unfold waitsP
  obtain ⟨p, hp⟩ : ∃ p, (l.t == t) = p := ⟨_, rfl⟩
  rw [hp] at d1 ⊢
  clear hp h ht
  cases p <;>
  · go_enter Tryd.func43, Tryd.ntmps43
    go_upto_region 1 with fail
    refine wp_region_quiet_below (by kernel_rfl) (by kernel_rfl) ?_
    repeat (go_big_quiet_step (fail))
    refine wpQuiet_nil ?_
    rintro W3 ⟨pp, hpp⟩
    have HB3 := Lib.hid (show Below W.heap.size W W3 by rw [hpp]; exact below_regrown _ _ _)
    clear hpp z0 z1 z2 z3 z4 z5 z6 v0
    go_wp2_with fail
    go_ret
    exact ⟨by simp, HB3.out⟩

theorem covers_b (a b : Int) (ha : 1 ≤ a ∧ a ≤ 4) (hb : 1 ≤ b ∧ b ≤ 4) (w : World) (hg : Gw w) : Calls Tryd.prog 46 #[.int .i64 a, .int .i64 b] w fun e w' => e = .returned (.bool (covM a b)) ∧ Below w.heap.size w w' :=
  (covers_any a b ha hb w hg).mono fun _ _ ⟨h1, h2⟩ => ⟨h1, by rw [h2]; exact Below.refl _ _⟩
theorem conflict_b (a b : Int) (ha : 1 ≤ a ∧ a ≤ 4) (hb : 1 ≤ b ∧ b ≤ 4) (w : World) (hg : Gw w) : Calls Tryd.prog 60 #[.int .i64 a, .int .i64 b] w fun e w' => e = .returned (.bool (conM a b)) ∧ Below w.heap.size w w' :=
  (conflict_any a b ha hb w hg).mono fun _ _ ⟨h1, h2⟩ => ⟨h1, by rw [h2]; exact Below.refl _ _⟩
/-- holds that, or more -/
def hasP (t : Nat) (x : Th) (m : Int) (l : LK) : Bool := l.t == t && l.h && covM l.m m && liesM x l.x
set_option maxRecDepth 100000 in
set_option maxHeartbeats 1000000 in
theorem hasP_any (t a a2 a3 : Nat) (x : Th) (m : Int) (hm : 1 ≤ m ∧ m ≤ 4) (l : LK) (hl : l.Ok) (b o : Nat) (W : World) (hg : Gw W) (h : Cs W b o l) (ht : W.cell? ⟨a, 0, none⟩ = some (.int .u32 (t : Int))) (hm2 : W.cell? ⟨a2, 0, none⟩ = some (.int .i64 m)) (hx : Blk W a3 36 (tcs x)) :
    Calls Tryd.prog 45 #[.pointer (some ⟨b, o, none⟩), .pointer (some ⟨a, 0, none⟩), .pointer (some ⟨a2, 0, none⟩), .pointer (some ⟨a3, 0, none⟩)] W fun e w' => e = .returned (.bool (hasP t x m l)) ∧ Below W.heap.size W w' := by
  obtain ⟨z0, z1, z2, z3, z4, z5, z6⟩ := h.rg
  obtain ⟨x0, x1, x2, x3⟩ := blk36 hx
  have v0 := fun d os => cell_regrown ht d os
  have v1 := fun d os => cell_regrown hm2 d os
  have y0 := fun d os => cell_regrown x0 d os
  have y1 := fun d os => cell_regrown x1 d os
  have y2 := fun d os => cell_regrown x2 d os
  have y3 := fun d os => cell_regrown x3 d os
  have d1 := nbeq l.t t
  have HC := Lib.hid (fun W' (h : Below W.heap.size W W') => covers_b l.m m ⟨hl.m1, hl.m4⟩ hm W' (hg.below h))
  have HL := Lib.hid (fun W' => lies_any x l.x W')
  unfold hasP
  obtain ⟨p, hp⟩ : ∃ p, (l.t == t) = p := ⟨_, rfl⟩
  rw [hp] at d1 ⊢
  generalize covM _ _ = c at HC ⊢
  generalize liesM _ _ = r at HL ⊢
  obtain ⟨lt, ⟨lr, li, la, lb⟩, lm, lh⟩ := l
  obtain ⟨xr, xi, xa, xb⟩ := x
  simp only [Th.agg] at HC HL z0 z1 z2 z3 z4 z5 z6 y0 y1 y2 y3 d1 ⊢
  clear hp h ht x0 x1 x2 x3 hx hm2 hg hl hm
  cases p <;> cases lh <;> cases c <;>
  · go_enter Tryd.func45, Tryd.ntmps45
    go_upto_region 1 with fail
    refine wp_region_quiet_below (by kernel_rfl) (by kernel_rfl) ?_
    repeat (go_big_quiet_step (first | (go_at_call 46; with_reducible exact Calls.regrown_of (HC.out _ (below_regrown _ _ _))) | (go_at_call 47; with_reducible exact Calls.regrown_of (HL.out _))))
    refine wpQuiet_nil ?_
    rintro W3 ⟨pp, hpp⟩
    have HB3 := Lib.hid (show Below W.heap.size W W3 by rw [hpp]; exact below_regrown _ _ _)
    clear hpp z0 z1 z2 z3 z4 z5 z6 v0 v1 y0 y1 y2 y3
    go_wp2_with fail
    go_ret
    exact ⟨by simp, HB3.out⟩
end Go.Proofs.YtlblgfpafdfilaaDoor
