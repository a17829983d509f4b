/-
STAGE 8: Seek.
-/
import Derived.Test.YtcajidlekfkjlaaNJ
namespace Go.Proofs.Ytcajidlekfkjlaa
open Go.RowKit

set_option maxRecDepth 100000 in
theorem below_drewN {B : Nat} {w w' : World} (h : Below B w w') (n : Nat) : Below B w (w'.drewN n) := ⟨h.os, h.tape, h.output, h.size, h.block⟩

set_option maxHeartbeats 4000000 in
set_option maxRecDepth 100000 in
theorem seek1_any (G : Option TV) (n : Nat) (x : List Nat) (hx : ∀ y ∈ x, y < 256) (hn : n < 4294967296) (w : World) (S : Nat → Prop) (h : GIn w S G) (hch : ChildAll w G x) (bg bn be : Nat) (hbg : Blk w bg 59 #[gV G]) (hbn : Blk w bn 23 #[.int .u32 (n : Int)]) (hbe : Blk w be 9 #[.string (strOf x)]) :
    Calls Try.prog 30 #[.pointer (some ⟨bn, 0, none⟩), .pointer (some ⟨bg, 0, none⟩), .pointer (some ⟨be, 0, none⟩)] w (SeekR w (seekM G x n)) := by
  obtain ⟨R, hR⟩ : ∃ R, R = seekM G x n := ⟨_, rfl⟩
  rw [← hR]
  have HR := Lib.hid hR
  obtain ⟨W0, hW0⟩ : ∃ W0, W0 = w.alloc (.cells #[.int .u32 0, .int .i64 0] 68) := ⟨_, rfl⟩
  have hb0 : Below w.heap.size w W0 := by rw [hW0]; exact (Below.refl _ _).alloc (Nat.le_refl _) _
  have b0 : Blk W0 w.heap.size 68 #[.int .u32 0, .int .i64 0] := by rw [hW0]; exact Blk.new w 68 _
  have hbn0 := hbn.below hb0 hbn.lt
  have hbe0 := hbe.below hb0 hbe.lt
  have hbg0 := hbg.below hb0 hbg.lt
  have x0 := hbn0.cell 0
  have x1 := hbe0.cell 0
  have x2 := hbg0.cell 0
  obtain ⟨g, hg⟩ : ∃ g, g = gV G := ⟨_, rfl⟩
  rw [← hg] at x2
  have HM1 := Lib.hid (fun W => must_no 1 W)
  have HY1 := Lib.hid (fun W => must_yes 1 W)
  unfold Flt at HM1
  have HB0 := Lib.hid hb0
  by_cases h0 : n = 0
  · have d1 : ((n : Int) != 0) = false := by rw [h0]; rfl
    have hE : R = .error 1 := by rw [HR.out, seekM, if_pos h0]
    have HE := Lib.hid hE
    have HW0 := Lib.hid hW0
    rw [hW0] at x0 x1 x2
    clear hE hn h0 hR hbg hbn hbe hch hg h hb0 b0 hbn0 hbe0 hbg0 hW0 hx
    go_enter Try.func30, Try.ntmps30
    go_wp2_with fail
    refine (HM1.out _).mono ?_
    rintro e w1 ⟨rfl, rfl⟩
    have e4 := HW0.out
    go_wp2_with fail
    refine ⟨rfl, ?_⟩
    rw [HE.out, ← e4]
    exact ⟨rfl, HB0.out⟩
  · have d1 : ((n : Int) != 0) = true := bne_iff_ne.2 (by omega)
    obtain ⟨A2, c2, W2, hcv2, hc2, _, hrb2, hbw2⟩ := run_cvn W0 x hx
    have hbw : Below w.heap.size w W2 := hb0.trans (hbw2.mono hb0.size)
    have hse := seek_any G n A2 c2 x W2 S hn h0 (h.below hbw) (hrb2.mono fun _ _ _ => trivial) (hch W2 A2 c2 hbw (hrb2.mono fun _ _ _ => trivial))
    have b2 := b0.below hbw2 b0.lt
    rw [← hg, ← hR] at hse
    have HBW := Lib.hid hbw
    have HSE := Lib.hid hse
    have HB2 := Lib.hid b2
    have HW0 := Lib.hid hW0
    rw [hW0] at x0 x1 x2 hcv2
    clear hR hbg hbn hbe hch hg h hb0 b0 hbn0 hbe0 hbg0 hW0 h0 hn hrb2 hbw2 hc2 hbw hse b2 hx
    cases hs : R with
    | error c =>
      rw [hs] at HSE
      go_enter Try.func30, Try.ntmps30
      go_wp2_with fail
      refine (HY1.out _).mono ?_
      rintro e w1 ⟨rfl, rfl⟩
      go_wp2_with fail
      refine HSE.out.mono ?_
      rintro e w1 ⟨rfl, hb1⟩
      have HB1 := Lib.hid (HBW.out.trans (hb1.mono HBW.out.size))
      clear hb1
      unfold Flt
      go_wp2_with fail
      exact ⟨rfl, rfl, HB1.out⟩
    | ok q =>
      rw [hs] at HSE
      obtain ⟨q1, q2⟩ := q
      go_enter Try.func30, Try.ntmps30
      go_wp2_with fail
      refine (HY1.out _).mono ?_
      rintro e w1 ⟨rfl, rfl⟩
      go_wp2_with fail
      refine HSE.out.mono ?_
      rintro e w1 ⟨rfl, hb1⟩
      have HB1 := Lib.hid (HBW.out.trans (hb1.mono HBW.out.size))
      have b1 := HB2.out.below hb1 HB2.out.lt
      have z0 := b1.cell 0
      have z1 := b1.cell 1
      have f0 := b1.frozen 0
      have f1 := b1.frozen 1
      have e0 := ((b1.set_ 0 (.int .u32 (q1 : Int))).set_ 1 (.int .i64 (q2 : Int))).cell 0
      have e1 := ((b1.set_ 0 (.int .u32 (q1 : Int))).set_ 1 (.int .i64 (q2 : Int))).cell 1
      have E0 := Lib.hid e0
      have E1 := Lib.hid e1
      clear e0 e1 b1 hb1
      go_wp2_with fail
      have e0 := E0.out
      have e1 := E1.out
      refine bodyPost_ret (v := .agg #[.int .u32 (q1 : Int), .int .i64 (q2 : Int)]) (by simp [results, Try.results30, go_sem, e0, e1]) rfl ?_
      exact ⟨rfl, (HB1.out.setCell (p := ⟨w.heap.size, 0, none⟩) (Nat.le_refl _) _).setCell (p := ⟨w.heap.size, 1, none⟩) (Nat.le_refl _) _⟩
/-- a page's number, a place, an error's number -/
def SeekP (w : World) (R : Except Int (Nat × Nat)) (e : Ending) (w' : World) : Prop := match R with
  | .ok q => e = .returned (.tuple #[.int .u32 (q.1 : Int), .int .i64 (q.2 : Int), .int .i64 0]) ∧ Below w.heap.size w w'
  | .error c => e = .returned (.tuple #[.int .u32 0, .int .i64 0, .int .i64 c]) ∧ Below w.heap.size w w'
set_option maxHeartbeats 2000000 in
set_option maxRecDepth 100000 in
theorem Seek_any (G : Option TV) (n : Nat) (x : List Nat) (hx : ∀ y ∈ x, y < 256) (hn : n < 4294967296) (w : World) (S : Nat → Prop) (h : GIn w S G) (hch : ChildAll w G x) :
    Calls Try.prog 11 #[gV G, .int .u32 (n : Int), .string (strOf x)] w (SeekP w (seekM G x n)) := by
  obtain ⟨R, hR⟩ : ∃ R, R = seekM G x n := ⟨_, rfl⟩
  obtain ⟨g, hg⟩ : ∃ g, g = gV G := ⟨_, rfl⟩
  have hgc := gV_cases G
  rw [← hR, ← hg]
  rw [← hg] at hgc
  obtain ⟨W, hW⟩ : ∃ W, W = ((w.alloc (.cells #[g] 59)).alloc (.cells #[.int .u32 (n : Int)] 23)).alloc (.cells #[.string (strOf x)] 9) := ⟨_, rfl⟩
  have hb : Below w.heap.size w W := by rw [hW]; exact (((Below.refl _ _).alloc (Nat.le_refl _) _).alloc (by simp) _).alloc (by simp; omega) _
  have hs : W.heap.size = w.heap.size + 3 := by rw [hW]; simp
  have bg : Blk W w.heap.size 59 #[g] := by rw [hW]; exact ((Blk.new w 59 _).alloc _).alloc _
  have bn : Blk W (w.heap.size + 1) 23 #[.int .u32 (n : Int)] := by rw [hW]; have := (Blk.new (w.alloc (.cells #[g] 59)) 23 #[.int .u32 (n : Int)]).alloc (.cells #[.string (strOf x)] 9); rwa [World.size_alloc] at this
  have be : Blk W (w.heap.size + 1 + 1) 9 #[.string (strOf x)] := by rw [hW]; have := Blk.new ((w.alloc (.cells #[g] 59)).alloc (.cells #[.int .u32 (n : Int)] 23)) 9 #[.string (strOf x)]; simpa using this
  have ha := ansP_below W
  have hp := seek1_any G n x hx hn (ansP W) S ((h.below hb).below ha) ((hch.below hb).below ha) w.heap.size (w.heap.size + 1) (w.heap.size + 1 + 1) (by rw [← hg]; exact bg.below ha bg.lt) (bn.below ha bn.lt) (be.below ha be.lt)
  rw [← hR] at hp
  have HB := Lib.hid hb
  have hmf := hmf_
  cases R with
  | error c =>
    have HA := Lib.hid (answer70_71_no _ _ _ c W (hp.mono fun e w' h => h))
    clear hR hg hb hs bg bn be ha hp hx hn h hch
    rcases hgc with rfl | ⟨tv, rfl⟩
    all_goals
      rw [hW] at HA
      have HW := Lib.hid hW
      clear hW
      go_enter Try.func11, Try.ntmps11
      go_wp2_with fail
      refine HA.out.mono ?_
      rintro e w1 ⟨rfl, hb1⟩
      have HB1 : Hid (Below w.heap.size w w1) := by rw [← HW.out] at hb1; exact Lib.hid (HB.out.trans (hb1.mono HB.out.size))
      clear hb1
      go_wp2_with fail
      go_quiet (fail)
      go_wp2_with fail
      go_ret3
      exact ⟨rfl, below_drewN (HB1.out.alloc HB1.out.size _) _⟩
  | ok q =>
    obtain ⟨q1, q2⟩ := q
    have HA := Lib.hid (answer70_71_yes _ _ _ q1 (q2 : Int) W (hp.mono fun e w' h => h))
    clear hR hg hb hs bg bn be ha hp hx hn h hch
    rcases hgc with rfl | ⟨tv, rfl⟩
    all_goals
      rw [hW] at HA
      have HW := Lib.hid hW
      clear hW
      go_enter Try.func11, Try.ntmps11
      go_wp2_with fail
      refine HA.out.mono ?_
      rintro e w1 ⟨rfl, hb1⟩
      have HB1 : Hid (Below w.heap.size w w1) := by rw [← HW.out] at hb1; exact Lib.hid (HB.out.trans (hb1.mono HB.out.size))
      clear hb1
      go_wp2_with fail
      go_quiet (fail)
      go_wp2_with fail
      go_ret3
      exact ⟨rfl, below_drewN (HB1.out.alloc HB1.out.size _) _⟩
end Go.Proofs.Ytcajidlekfkjlaa
