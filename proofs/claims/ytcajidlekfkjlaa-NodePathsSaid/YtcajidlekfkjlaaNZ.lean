/-
STAGE 8: the law's alive.
-/
import Derived.Test.YtcajidlekfkjlaaNY
namespace Go.Proofs.Ytcajidlekfkjlaa
open Go.RowKit

set_option maxRecDepth 100000 in
theorem seven_nr {w : World} {g : Nat} {T : Nat → Prop} (hT : T g) (hb : Blk w g 23 #[.int .u32 7]) : NR w T (some ⟨g, 0, none⟩) 1 [7] := by
  have := NR.of_blk (l := [7]) (w := w) (S := T) (n := 1) (g := g) hb hT (by simp) rfl
  exact this
/-- what a tree of the law's kind answers -/
structure Lives (W0 : World) (A : Option Addr) (n c bad : Nat) (err : Int) (es : List CE) : Prop where
  path : ∀ W, Below W0.heap.size W0 W → Calls Try.prog 8 #[.func (.func 9) #[.agg #[.slice A n c, .int .u32 (bad : Int), .int .i64 err]] #[], .int .u32 7, .string ⟨#[99]⟩] W fun e w' => ∃ v, e = .returned (.tuple #[v, .int .i64 0]) ∧ OwN w' (fun b => W.heap.size ≤ b) v 1 [7] ∧ Below W.heap.size W w'
  seek : ∀ W, Below W0.heap.size W0 W → Calls Try.prog 11 #[.func (.func 9) #[.agg #[.slice A n c, .int .u32 (bad : Int), .int .i64 err]] #[], .int .u32 7, .string ⟨#[99]⟩] W fun e w' => e = .returned (.tuple #[.int .u32 7, .int .i64 1, .int .i64 0]) ∧ Below W.heap.size W w'
  needs : ∀ W g, Below W0.heap.size W0 W → Blk W g 23 #[.int .u32 7] → Calls Try.prog 19 #[.func (.func 9) #[.agg #[.slice A n c, .int .u32 (bad : Int), .int .i64 err]] #[], .slice (some ⟨g, 0, none⟩) 1 1, .string ⟨#[99]⟩] W fun e w' => e = .returned (.tuple #[.int .i64 0, .int .i64 0]) ∧ Below W.heap.size W w'
  there : ∀ W g, Below W0.heap.size W0 W → Blk W g 23 #[.int .u32 7] → Calls Try.prog 19 #[.func (.func 9) #[.agg #[.slice A n c, .int .u32 (bad : Int), .int .i64 err]] #[], .slice (some ⟨g, 0, none⟩) 1 1, .string ⟨#[98]⟩] W fun e w' => e = .returned (.tuple #[.int .i64 0, .int .i64 7]) ∧ Below W.heap.size W w'
  all : ∀ W, Below W0.heap.size W0 W → Calls Try.prog 16 #[.func (.func 9) #[.agg #[.slice A n c, .int .u32 (bad : Int), .int .i64 err]] #[], .int .u32 7] W (CellsP W es 2 0)
  check : ∀ W, Below W0.heap.size W0 W → Calls Try.prog 15 #[.func (.func 9) #[.agg #[.slice A n c, .int .u32 (bad : Int), .int .i64 err]] #[], .int .u32 7] W fun e w' => e = .returned (.int .i64 0) ∧ Below W.heap.size W w'
  checkZ : ∀ W, Below W0.heap.size W0 W → Calls Try.prog 15 #[.func (.func 9) #[.agg #[.slice A n c, .int .u32 (bad : Int), .int .i64 err]] #[], .int .u32 0] W fun e w' => e = .returned (.int .i64 1) ∧ Below W.heap.size W w'
set_option maxRecDepth 100000 in
theorem lives_small (W0 : World) (z : Nat) (S : Nat → Prop) (h : (smallT z).In W0 S) : Lives W0 (smallT z).A (smallT z).n (smallT z).c (smallT z).bad (smallT z).err (smallP z).es := by
  have hG : GIn W0 S (some (smallT z)) := fun t e => by injection e with e; subst e; exact ⟨h, small_few z⟩
  have hch : ∀ x, ChildAll W0 (some (smallT z)) x := fun x => ChildAll.leaf (small_leaf z) x
  have hnr : ∀ W g, Blk W g 23 #[.int .u32 7] → NR W All (some ⟨g, 0, none⟩) 1 [7] := fun W g hb => seven_nr trivial hb
  refine ⟨fun W hW => ?_, fun W hW => ?_, fun W g hW hb => ?_, fun W g hW hb => ?_, fun W hW => ?_, fun W hW => ?_, fun W hW => ?_⟩
  · have := path_any (some (smallT z)) 7 [99] (by simp) (by decide) W S (hG.below hW) ((hch _).below hW)
    rw [small_path] at this
    exact this
  · have := Seek_any (some (smallT z)) 7 [99] (by simp) (by decide) W S (hG.below hW) ((hch _).below hW)
    rw [small_seek] at this
    exact this
  · have := top11_ok (some (smallT z)) (some ⟨g, 0, none⟩) 1 1 [7] [99] (by simp) W S (hG.below hW) (hnr W g hb) ((hch _).below hW) (by decide) (by decide) (by decide) [⟨7, smallP z⟩] ⟨7, smallP z⟩ (small_way z _) rfl rfl (small_room z)
    rw [small_no] at this
    exact this
  · have := top11_ok (some (smallT z)) (some ⟨g, 0, none⟩) 1 1 [7] [98] (by simp) W S (hG.below hW) (hnr W g hb) ((hch _).below hW) (by decide) (by decide) (by decide) [⟨7, smallP z⟩] ⟨7, smallP z⟩ (small_way z _) rfl rfl (small_room z)
    rw [small_yes] at this
    exact this
  · exact all_leaf (some (smallT z)) 7 (by decide) (by decide) (smallP z) W S (hG.below hW) (small_ask z) rfl
  · exact Check_leaf (some (smallT z)) 7 (by decide) (by decide) (smallP z) W S (hG.below hW) (small_ask z) rfl rfl (small_e z)
  · exact Check_err (some (smallT z)) 0 (by decide) 1 W S (hG.below hW) rfl
set_option maxHeartbeats 4000000 in
set_option maxRecDepth 100000 in
theorem alive_any (w : World) : Calls Try.prog 6 #[] w fun e w' => e = .returned (.bool true) ∧ Below w.heap.size w w' := by
  have HS := Lib.hid (small_any w)
  obtain ⟨T, hT⟩ : ∃ T, T = smallT w.heap.size := ⟨_, rfl⟩
  have HL := Lib.hid (fun W (h : (smallT w.heap.size).In W (fun b => w.heap.size ≤ b)) => lives_small W w.heap.size _ h)
  rw [← hT] at HS HL
  obtain ⟨A, n, c, l, bad, err⟩ := T
  unfold TV.agg at HS
  dsimp only at HS HL
  have hmf := hmf_
  clear hT
  go_enter Try.func6, Try.ntmps6
  go_wp2_with fail
  refine HS.out.mono ?_
  rintro e w1 ⟨rfl, hin, hb1⟩
  obtain ⟨W2, hW2⟩ : ∃ W, W = w1.alloc (.cells #[.slice A n c, .int .u32 (bad : Int), .int .i64 err] 26) := ⟨_, rfl⟩
  have b2 : Blk W2 w1.heap.size 26 #[.slice A n c, .int .u32 (bad : Int), .int .i64 err] := by rw [hW2]; exact Blk.new w1 26 _
  have hb2 : Below w1.heap.size w1 W2 := by rw [hW2]; exact (Below.refl _ _).alloc (Nat.le_refl _) _
  have HL2 := Lib.hid (HL.out W2 (hin.below hb2))
  have HB2 := Lib.hid (hb1.trans (hb2.mono hb1.size))
  have HK := Lib.hid b2
  have x0 := b2.cell 0
  have x1 := b2.cell 1
  have x2 := b2.cell 2
  rw [hW2] at x0 x1 x2
  have HW2 := Lib.hid hW2
  obtain ⟨B, hB⟩ : ∃ B, B = w1.heap.size := ⟨_, rfl⟩
  rw [← hB] at HK x0 x1 x2
  have HBB := Lib.hid hB
  clear hin hb1 b2 hb2 hW2
  go_wp2_with fail
  rw [← HW2.out]
  refine (HL2.out.path W2 (Below.refl _ _)).mono ?_
  rintro e w3 ⟨v, rfl, ho3, hb3⟩
  obtain ⟨vA, vc, rfl, _, _, hr3⟩ := ho3.reads
  have H3 := Lib.hid (hb3)
  have HR3 := Lib.hid (hr3.mono (T := All) fun _ _ _ => trivial)
  have k3 := HK.out.below H3.out HK.out.lt
  clear x0 x1 x2
  have x0 := k3.cell 0
  have x1 := k3.cell 1
  have x2 := k3.cell 2
  clear hb3 k3
  clear ho3 hr3
  rw [← hB]
  clear hB
  go_wp2_with fail
  refine (HL2.out.seek w3 H3.out).mono ?_
  rintro e w4 ⟨rfl, hb4⟩
  have H4 := Lib.hid ((H3.out.trans (hb4.mono H3.out.size)))
  have HR4 := Lib.hid (HR3.out.below_ hb4)
  have k4 := HK.out.below H4.out HK.out.lt
  clear x0 x1 x2
  have x0 := k4.cell 0
  have x1 := k4.cell 1
  have x2 := k4.cell 2
  clear hb4 k4
  have hq5 : Below W2.heap.size W2 (w4.alloc (.cells #[.int .u32 7] 23)) := H4.out.alloc H4.out.size _
  have HN5 := Lib.hid (HL2.out.needs (w4.alloc (.cells #[.int .u32 7] 23)) w4.heap.size hq5 (Blk.new w4 23 _))
  have HQ5 := Lib.hid hq5
  have HA5 := Lib.hid (HR4.out.below_ ((Below.refl _ w4).alloc (Nat.le_refl _) (.cells #[.int .u32 7] 23)))
  have hz5 : B < w4.heap.size := Nat.lt_of_lt_of_le HK.out.lt H4.out.size
  clear hq5
  go_wp2_with fail
  refine HN5.out.mono ?_
  rintro e w5 ⟨rfl, hb5⟩
  have H5 := Lib.hid (HQ5.out.trans (hb5.mono HQ5.out.size))
  have HR5 := Lib.hid (HA5.out.below_ hb5)
  have k5 := HK.out.below H5.out HK.out.lt
  clear x0 x1 x2 hz5
  have x0 := k5.cell 0
  have x1 := k5.cell 1
  have x2 := k5.cell 2
  clear hb5 k5
  have hq6 : Below W2.heap.size W2 (w5.alloc (.cells #[.int .u32 7] 23)) := H5.out.alloc H5.out.size _
  have HN6 := Lib.hid (HL2.out.there (w5.alloc (.cells #[.int .u32 7] 23)) w5.heap.size hq6 (Blk.new w5 23 _))
  have HQ6 := Lib.hid hq6
  have HA6 := Lib.hid (HR5.out.below_ ((Below.refl _ w5).alloc (Nat.le_refl _) (.cells #[.int .u32 7] 23)))
  have hz6 : B < w5.heap.size := Nat.lt_of_lt_of_le HK.out.lt H5.out.size
  clear hq6
  go_wp2_with fail
  refine HN6.out.mono ?_
  rintro e w6 ⟨rfl, hb6⟩
  have H6 := Lib.hid (HQ6.out.trans (hb6.mono HQ6.out.size))
  have HR6 := Lib.hid (HA6.out.below_ hb6)
  have k6 := HK.out.below H6.out HK.out.lt
  clear x0 x1 x2 hz6
  have x0 := k6.cell 0
  have x1 := k6.cell 1
  have x2 := k6.cell 2
  clear hb6 k6
  go_wp2_with fail
  refine (HL2.out.all w6 H6.out).mono ?_
  rintro e w7 ⟨v7, S7, T7, l7, rfl, ho7, he7, hS7, hT7, hb7⟩
  obtain ⟨A7, c7, rfl, _⟩ := ho7.reads (by decide)
  have H7 := Lib.hid ((H6.out.trans (hb7.mono H6.out.size)))
  have HR7 := Lib.hid (HR6.out.below_ hb7)
  have k7 := HK.out.below H7.out HK.out.lt
  clear x0 x1 x2
  have x0 := k7.cell 0
  have x1 := k7.cell 1
  have x2 := k7.cell 2
  clear hb7 k7
  clear ho7 he7 hS7 hT7
  have HA8 := Lib.hid (HR7.out.below_ ((Below.refl _ w7).alloc (Nat.le_refl _) (.cells #[.int .u32 7] 23)))
  have hnu := numbersL_any vA (some ⟨w7.heap.size, 0, none⟩) 1 vc 1 1 [7] [7] (w7.alloc (.cells #[.int .u32 7] 23)) HA8.out (seven_nr (T := All) trivial (Blk.new w7 23 _)) (by decide)
  rw [decide_eq_true rfl] at hnu
  have HNU := Lib.hid hnu
  have hz8 : B < w7.heap.size := Nat.lt_of_lt_of_le HK.out.lt H7.out.size
  have HQ8 := Lib.hid (H7.out.alloc H7.out.size (.cells #[.int .u32 7] 23))
  clear hnu
  go_wp2_with fail
  refine HNU.out.mono ?_
  rintro e w8 ⟨rfl, hb8⟩
  have H8 := Lib.hid (HQ8.out.trans (hb8.mono HQ8.out.size))
  have k8 := HK.out.below H8.out HK.out.lt
  clear x0 x1 x2 hz8
  have x0 := k8.cell 0
  have x1 := k8.cell 1
  have x2 := k8.cell 2
  clear hb8 k8
  go_wp2_with fail
  refine (HL2.out.check w8 H8.out).mono ?_
  rintro e w9 ⟨rfl, hb9⟩
  have H9 := Lib.hid (H8.out.trans (hb9.mono H8.out.size))
  have k9 := HK.out.below H9.out HK.out.lt
  clear x0 x1 x2
  have x0 := k9.cell 0
  have x1 := k9.cell 1
  have x2 := k9.cell 2
  clear hb9 k9
  go_wp2_with fail
  refine (HL2.out.checkZ w9 H9.out).mono ?_
  rintro e w10 ⟨rfl, hb10⟩
  have H10 := Lib.hid (HB2.out.trans ((H9.out.trans (hb10.mono H9.out.size)).mono HB2.out.size))
  clear hb10 x0 x1 x2
  go_wp2_with fail
  go_ret
  exact ⟨rfl, H10.out⟩
end Go.Proofs.Ytcajidlekfkjlaa
