/-
STAGE 12: the closures of waitsFor.
-/
import Derived.Test.YtlblgfpafdfilaaDoorLD
namespace Go.Proofs.YtlblgfpafdfilaaDoor
open Go.RowKit Go.Sort

/-- holds some of it -/
def passP (q l : LK) : Bool := l.t == q.t && l.h && meetM l.x q.x
/-- whether the lock q at place p waits for the lock l at place k -/
def waitM (pass : Bool) (q : LK) (p : Nat) (l : LK) (k : Nat) : Bool := (l.h || (decide (k < p) && !pass)) && l.t != q.t && conM l.m q.m && meetM l.x q.x
set_option maxRecDepth 100000 in
set_option maxHeartbeats 1000000 in
theorem passP_any (q l : LK) (a b o : Nat) (W : World) (h : Cs W b o l) (hq : Blk W a 46 (lcs q)) :
    Calls Tryd.prog 57 #[.pointer (some ⟨b, o, none⟩), .pointer (some ⟨a, 0, none⟩)] W fun e w' => e = .returned (.bool (passP q l)) ∧ Below W.heap.size W w' := by
  obtain ⟨z0, z1, z2, z3, z4, z5, z6⟩ := h.rg
  obtain ⟨y0, y1, y2, y3, y4, y5, y6⟩ := (Cs.of hq).rg
  have d1 := nbeq l.t q.t
  have HL := Lib.hid (fun W' => meet_any l.x q.x W')
  unfold passP
  obtain ⟨p, hp⟩ : ∃ p, (l.t == q.t) = p := ⟨_, rfl⟩
  rw [hp] at d1 ⊢
  generalize meetM _ _ = r at HL ⊢
  obtain ⟨lt, ⟨lr, li, la, lb⟩, lm, lh⟩ := l
  obtain ⟨qt, ⟨qr, qi, qa, qb⟩, qm, qh⟩ := q
  simp only [Th.agg, Nat.zero_add] at HL z0 z1 z2 z3 z4 z5 z6 y0 y1 y2 y3 y4 y5 y6 d1 ⊢
  clear hp h hq
  cases p <;> cases lh <;>
  · go_enter Tryd.func57, Tryd.ntmps57
    go_upto_region 1 with fail
    refine wp_region_quiet_below (by kernel_rfl) (by kernel_rfl) ?_
    repeat (go_big_quiet_step (first | (go_at_call 58; with_reducible exact Calls.regrown_of (HL.out _))))
    refine wpQuiet_nil ?_
    rintro W3 ⟨pp, hpp⟩
    have HB3 := Lib.hid (show Below W.heap.size W W3 by rw [hpp]; exact below_regrown _ _ _)
    clear hpp z0 z1 z2 z3 z4 z5 z6 y0 y1 y2 y3 y4 y5 y6
    go_wp2_with fail
    go_ret
    exact ⟨by simp, HB3.out⟩
set_option maxRecDepth 100000 in
set_option maxHeartbeats 2000000 in
theorem waitP_any (g : Nat) (A : Option Addr) (c : Nat) (ls : List LK) (W : World) (hT : TR W g A c ls) (hg : Gw W) (q : LK) (hqo : q.Ok) (p k : Nat) (l : LK) (hl : ls[k]? = some l) (pass : Bool) (a1 a2 a3 a4 : Nat)
    (h1 : W.cell? ⟨a1, 0, none⟩ = some (.pointer (some ⟨g, 0, none⟩))) (h2 : W.cell? ⟨a2, 0, none⟩ = some (.int .i64 (p : Int))) (h3 : W.cell? ⟨a3, 0, none⟩ = some (.bool pass)) (hq : Blk W a4 46 (lcs q)) :
    Calls Tryd.prog 59 #[.int .i64 (k : Int), .pointer (some ⟨a1, 0, none⟩), .pointer (some ⟨a2, 0, none⟩), .pointer (some ⟨a3, 0, none⟩), .pointer (some ⟨a4, 0, none⟩)] W fun e w' => e = .returned (.bool (waitM pass q p l k)) ∧ Below W.heap.size W w' := by
  obtain ⟨b, rfl, hcs⟩ := hT.row k l hl
  obtain ⟨z0, z1, z2, z3, z4, z5, z6⟩ := hcs.rg
  obtain ⟨y0, y1, y2, y3, y4, y5, y6⟩ := (Cs.of hq).rg
  have hk : k < ls.length := (List.getElem?_eq_some_iff.1 hl).1
  have hk2 : (k : Int) < (ls.length : Int) := by omega
  have c0 := hT.blk.cell 0
  simp only [List.getElem?_toArray, List.getElem?_cons_zero] at c0
  have v2 := fun d os => cell_regrown h2 d os
  have v3 := fun d os => cell_regrown h3 d os
  have d1 := nbeq l.t q.t
  have hlo := hT.ok l (List.mem_of_getElem? hl)
  have HC := Lib.hid (fun W' (h : Below W.heap.size W W') => conflict_b l.m q.m ⟨hlo.m1, hlo.m4⟩ ⟨hqo.m1, hqo.m4⟩ W' (hg.below h))
  have HL := Lib.hid (fun W' => meet_any l.x q.x W')
  unfold waitM
  obtain ⟨u, hu⟩ : ∃ u, (l.t == q.t) = u := ⟨_, rfl⟩
  have d2 : ((l.t : Int) != (q.t : Int)) = !u := by rw [← hu, ← d1]; rfl
  have d3 : (l.t != q.t) = !u := by rw [← hu]; rfl
  rw [hu] at d1
  rw [d3]
  obtain ⟨s, hs⟩ : ∃ s, decide (k < p) = s := ⟨_, rfl⟩
  have d4 : decide ((k : Int) < (p : Int)) = s := by rw [← hs, decide_eq_decide]; omega
  rw [hs]
  generalize meetM _ _ = r at HL ⊢
  generalize conM _ _ = cc at HC ⊢
  obtain ⟨lt, ⟨lr, li, la, lb⟩, lm, lh⟩ := l
  obtain ⟨qt, ⟨qr, qi, qa, qb⟩, qm, qh⟩ := q
  simp only [Th.agg, Nat.zero_add] at HL HC z0 z1 z2 z3 z4 z5 z6 y0 y1 y2 y3 y4 y5 y6 d1 d2 ⊢
  generalize ls.length = n at *
  clear hu hq h2 h3 hT hg hqo hlo hcs d3 hl
  cases lh <;> cases s <;> cases pass <;> cases u <;> cases cc <;>
  · go_enter Tryd.func59, Tryd.ntmps59
    go_upto_region 2 with fail
    refine wp_region_quiet_below (by kernel_rfl) (by kernel_rfl) ?_
    repeat (go_big_quiet_step (first | (go_at_call 60; with_reducible exact Calls.regrown_of (HC.out _ (below_regrown _ _ _))) | (go_at_call 58; with_reducible exact Calls.regrown_of (HL.out _))))
    refine wpQuiet_nil ?_
    rintro W3 ⟨pp, hpp⟩
    have HB3 := Lib.hid (show Below W.heap.size W W3 by rw [hpp]; exact below_regrown _ _ _)
    clear hpp z0 z1 z2 z3 z4 z5 z6 y0 y1 y2 y3 y4 y5 y6 v2 v3
    go_wp2_with fail
    go_ret
    exact ⟨by simp, HB3.out⟩
end Go.Proofs.YtlblgfpafdfilaaDoor
