/-
STAGE 8: answer of a spot.
-/
import Derived.Test.YtcajidlekfkjlaaNB
import Derived.Deep.RegionWith
namespace Go.Proofs.Ytcajidlekfkjlaa
open Go.RowKit

set_option maxRecDepth 100000 in
theorem spot_end {w W0 w1 : World} {a b : Nat} {T : TypeId} (x y x' y' z z' : Value) (ha : Blk W0 a T #[x, y]) (hb : Blk W0 b 24 #[z]) (hf : Below w.heap.size w W0) (h : Below W0.heap.size W0 w1) (hab : a ≠ b) :
    Blk (((w1.setCell ⟨a, 0, none⟩ x').setCell ⟨a, 1, none⟩ y').setCell ⟨b, 0, none⟩ z') a T #[x', y'] ∧ Blk (((w1.setCell ⟨a, 0, none⟩ x').setCell ⟨a, 1, none⟩ y').setCell ⟨b, 0, none⟩ z') b 24 #[z'] ∧
      Fr w (((w1.setCell ⟨a, 0, none⟩ x').setCell ⟨a, 1, none⟩ y').setCell ⟨b, 0, none⟩ z') (fun k => k = a ∨ k = b) := by
  refine ⟨?_, ?_, ?_⟩
  · exact ((((ha.below h ha.lt).set_ 0 x').set_ 1 y').far (p := ⟨b, 0, none⟩) hab z')
  · exact ((((hb.below h hb.lt).far (p := ⟨a, 0, none⟩) (Ne.symm hab) x').far (p := ⟨a, 1, none⟩) (Ne.symm hab) y').set_ 0 z')
  · exact (((Fr.of_below (hf.trans (h.mono hf.size)) _).setCell (p := ⟨a, 0, none⟩) (Or.inl (Or.inl rfl)) x').setCell (p := ⟨a, 1, none⟩) (Or.inl (Or.inl rfl)) y').setCell (p := ⟨b, 0, none⟩) (Or.inl (Or.inr rfl)) z'
set_option maxHeartbeats 1000000 in
set_option maxRecDepth 100000 in
theorem catch117 (a b : Nat) (T : TypeId) (c : Int) (older : List PanicEntry) (w : World) (hx : Blk w a T #[.int .u32 0, .int .i64 0]) (hy : Blk w b 24 #[.int .i64 0]) (hab : a ≠ b) :
    CallsD Try.prog 51 #[.pointer (some ⟨a, 0, none⟩), .pointer (some ⟨b, 0, none⟩)] (.panicking ({ v := fltV c, recovered := false } :: older)) w fun e u' w' =>
      e = .returned (.tuple #[]) ∧ u' = .panicking ({ v := fltV c, recovered := true } :: older) ∧ Blk w' a T #[.int .u32 0, .int .i64 0] ∧ Blk w' b 24 #[.int .i64 c] ∧ Fr w w' (fun k => k = a ∨ k = b) := by
  unfold fltV
  refine callsD_of_wpS Try.func51 rfl fun c₀ cs hu => ?_
  apply wpS_seq
  apply wpS_region
  simp [wpOpsS, go_sem, recoverD, hu, Try.ntmps51, Exit.thenS]
  refine wpS_of_wp ?_
  simp only [Array.replicate_succ, Array.replicate_zero, List.push_toArray, List.setIfInBounds_toArray, List.append_toArray, List.nil_append, List.cons_append, List.set_cons_succ, List.set_cons_zero]
  have HC := fun W => codeOf_any c W
  unfold fltV at HC
  go_wp2_with fail
  obtain ⟨W0, hW0⟩ : ∃ W0, W0 = w.alloc (.cells #[.int .u32 0, .int .i64 0] 68) := ⟨_, rfl⟩
  have n0 : Blk W0 w.heap.size 68 #[.int .u32 0, .int .i64 0] := by rw [hW0]; exact Blk.new w 68 _
  have a0 : Blk W0 a T #[.int .u32 0, .int .i64 0] := by rw [hW0]; exact hx.alloc _
  have b0 : Blk W0 b 24 #[.int .i64 0] := by rw [hW0]; exact hy.alloc _
  have f0 : Below w.heap.size w W0 := by rw [hW0]; exact (Below.refl _ _).alloc (Nat.le_refl _) _
  rw [← hW0]
  have x0 := n0.cell 0
  have x1 := n0.cell 1
  have HN := Lib.hid n0
  have HA := Lib.hid a0
  have HB := Lib.hid b0
  have HF := Lib.hid f0
  have HAB := Lib.hid hab
  have HX := Lib.hid hx
  have HY := Lib.hid hy
  clear n0 a0 b0 f0 hW0 hab hx hy
  have n1 : ¬ a = b := HAB.out
  have n2 : ¬ b = a := fun e => HAB.out e.symm
  go_region_with (go_at_call 46; refine (HC _).mono ?_; rintro e w1 ⟨rfl, hb⟩; have HW := Lib.hid hb; have y0 := (HN.out.drew.below hb HN.out.lt).cell 0; have y1 := (HN.out.drew.below hb HN.out.lt).cell 1; have ya := HA.out.drew.below hb HA.out.lt; have yb := HB.out.drew.below hb HB.out.lt; have ya0 := ya.cell 0; have ya1 := ya.cell 1; have yaf0 := ya.frozen 0; have yaf1 := ya.frozen 1; have yb0 := yb.cell 0; have ybf0 := yb.frozen 0; clear hb ya yb)
  all_goals
    obtain ⟨r1, r2, r3⟩ := spot_end (.int .u32 0) (.int .i64 0) (.int .u32 0) (.int .i64 0) (.int .i64 0) (.int .i64 c) HA.out.drew HB.out.drew HF.out.drew HW.out HAB.out
    exact ⟨rfl, _, rfl, _, results_none rfl _ _ _, rfl, rfl, r1, r2, r3⟩
set_option maxRecDepth 100000 in
theorem idle117 (a b : Addr) (w : World) :
    CallsD Try.prog 51 #[.pointer (some a), .pointer (some b)] .returning w fun e u' w' => e = .returned (.tuple #[]) ∧ u' = .returning ∧ w' = w := by
  have hne := neq20n
  refine callsD_of_wpS Try.func51 rfl fun c₀ cs hu => ?_
  apply wpS_seq
  apply wpS_region
  simp [wpOpsS, go_sem, recoverD, hu, Try.ntmps51, Exit.thenS]
  refine wpS_of_wp ?_
  simp only [Array.replicate_succ, Array.replicate_zero, List.push_toArray, List.setIfInBounds_toArray, List.append_toArray, List.nil_append, List.cons_append, List.set_cons_succ, List.set_cons_zero]
  go_wp2_with fail
  cases c₀
  simp_all [bodyPostS, results, Try.results51]
def ansP (w : World) : World := (w.alloc (.cells #[.int .u32 0, .int .i64 0] 68)).alloc (.cells #[.int .i64 0] 24)
set_option maxRecDepth 100000 in
theorem ansP_size (w : World) : (ansP w).heap.size = w.heap.size + 2 := by simp [ansP]
set_option maxRecDepth 100000 in
theorem ansP_below (w : World) : Below w.heap.size w (ansP w) := ((Below.refl _ _).alloc (Nat.le_refl _) _).alloc (by simp) _
set_option maxRecDepth 100000 in
theorem ansP_blk (w : World) : Blk (ansP w) w.heap.size 68 #[.int .u32 0, .int .i64 0] ∧ Blk (ansP w) (w.heap.size + 1) 24 #[.int .i64 0] :=
  ⟨(Blk.new w 68 _).alloc _, by have := Blk.new (w.alloc (.cells #[.int .u32 0, .int .i64 0] 68)) 24 #[.int .i64 0]; rwa [World.size_alloc] at this⟩
set_option maxHeartbeats 1000000 in
set_option maxRecDepth 100000 in
theorem answer70_71_no (p q r : Value) (c : Int) (w : World) (h : Calls Try.prog 30 #[p, q, r] (ansP w) fun e w' => e = Flt c ∧ Below (ansP w).heap.size (ansP w) w') :
    Calls Try.prog 29 #[.func (.func 30) #[] #[p, q, r]] w fun e w' => e = .returned (.tuple #[.agg #[.int .u32 0, .int .i64 0], .int .i64 c]) ∧ Below w.heap.size w w' := by
  have hmf := hmf_
  unfold Flt at h
  go_enter_defers Try.func29, Try.ntmps29
  go_wp2_with fail
  refine h.mono ?_
  rintro e w1 ⟨rfl, hb⟩
  go_wp2_with fail
  have hs := ansP_size w
  have b1 := (ansP_blk w).1.below hb (by omega)
  have b2 := (ansP_blk w).2.below hb (by omega)
  refine leaves_cons (f := 51) (args := #[.pointer (some ⟨w.heap.size, 0, none⟩), .pointer (some ⟨w.heap.size + 1, 0, none⟩)]) (by simp) (by simp [go_sem]) ?_
  refine (catch117 _ _ _ c [] w1 b1 b2 (by simp)).mono ?_
  rintro e u' w'' ⟨rfl, rfl, c1, c2, hf⟩
  have hz : Below w.heap.size w w'' := ((ansP_below w).trans (hb.mono (by omega))).trans (hf.below (fun b hb => by omega) (by have := hb.size; omega))
  have d0 := c1.cell 0
  have d1 := c1.cell 1
  have d2 := c2.cell 0
  simp [Leaves, settle, results, Try.results29, go_sem, d0, d1, d2, hz]
set_option maxHeartbeats 1000000 in
set_option maxRecDepth 100000 in
theorem answer70_71_yes (p q r : Value) (x : Nat) (k : Int) (w : World) (h : Calls Try.prog 30 #[p, q, r] (ansP w) fun e w' => e = .returned (.agg #[.int .u32 (x : Int), .int .i64 k]) ∧ Below (ansP w).heap.size (ansP w) w') :
    Calls Try.prog 29 #[.func (.func 30) #[] #[p, q, r]] w fun e w' => e = .returned (.tuple #[.agg #[.int .u32 (x : Int), .int .i64 k], .int .i64 0]) ∧ Below w.heap.size w w' := by
  have hmf := hmf_
  go_enter_defers Try.func29, Try.ntmps29
  go_wp2_with fail
  refine h.mono ?_
  rintro e w1 ⟨rfl, hb⟩
  have hs := ansP_size w
  have b1 := (ansP_blk w).1.below hb (by omega)
  have b2 := (ansP_blk w).2.below hb (by omega)
  have e0 := b1.cell 0
  have e1 := b1.cell 1
  have f0 := b1.frozen 0
  have f1 := b1.frozen 1
  have e2 := b2.cell 0
  have f2 := b2.frozen 0
  obtain ⟨r1, r2, r3⟩ := spot_end (.int .u32 0) (.int .i64 0) (.int .u32 (x : Int)) (.int .i64 k) (.int .i64 0) (.int .i64 0) b1 b2 ((ansP_below w).trans (hb.mono (by omega))) (Below.refl _ _) (by simp)
  have hz := r3.below (B := w.heap.size) (fun b hb => by omega) (Nat.le_refl _)
  have d0 := r1.cell 0
  have d1 := r1.cell 1
  have d2 := r2.cell 0
  have HZ := Lib.hid hz
  have H0 := Lib.hid d0
  have H1 := Lib.hid d1
  have H2 := Lib.hid d2
  clear hz d0 d1 d2 r1 r2 r3 b1 b2 hb hs h
  go_wp2_with fail
  refine leaves_cons (f := 51) (args := #[.pointer (some ⟨w.heap.size, 0, none⟩), .pointer (some ⟨w.heap.size + 1, 0, none⟩)]) (by simp) (by simp [go_sem]) ?_
  refine (idle117 _ _ _).mono ?_
  rintro e u' w'' ⟨rfl, rfl, rfl⟩
  have d0 := H0.out
  have d1 := H1.out
  have d2 := H2.out
  simp [Leaves, settle, results, Try.results29, go_sem, d0, d1, d2]
  exact HZ.out
end Go.Proofs.Ytcajidlekfkjlaa
