/-
  THE WALKS OF Print at a text, and of awake.
-/
import Derived.Test.YtjfpkjpicalfmaaDoorWalkO
import Derived.Test.YtjfpkjpicalfmaaDoorWalkF
import Derived.Test.YtjfpkjpicalfmaaDoorEsc
namespace Go.Proofs.YtjfpkjpicalfmaaDoor
open Go.RowKit Go.Sort
attribute [local go_sem high] run_eq23 run_neq23 run_eq9

/-- some number lies in the library's own variable -/
def Sm (w : World) : Prop := ∃ m, w.cell? ⟨1, 0, none⟩ = some (.int .i64 m)
theorem Sm.below {w w' : World} (h : Sm w) (hb : Below w.heap.size w w') : Sm w' := by
  obtain ⟨m, hm⟩ := h
  exact ⟨m, (hb.cell (p := ⟨1, 0, none⟩) (block_lt_of_cell hm)).trans hm⟩
def q1 : ByteArray := ⟨#[39]⟩
def q2 : ByteArray := ⟨#[39, 39]⟩
theorem replace_any (s : ByteArray) (hs : s.size ≤ 1048576) (w : World) (hw : Sm w) : Calls Tryd.prog 78 #[.string s, .string ⟨#[39]⟩, .string ⟨#[39, 39]⟩] w fun e w' => e = .returned (.string (esc s)) ∧ Below w.heap.size w w' := by
  obtain ⟨m, hm⟩ := hw
  have hc : Lib.countB s q1 * q1.size ≤ s.size := Lib.countB_mul_le q1 (Nat.le_refl _) s.size s (Nat.le_refl _)
  have h1 : q1.size = 1 := rfl
  have h2 : q2.size = 2 := rfl
  exact Tryd.strings_ReplaceAll s q1 q2 m w (by omega) hm (Nat.le_refl _) (by rw [h1] at hc; rw [h2]; omega)

def printT (s : ByteArray) : ByteArray := (⟨#[39]⟩ ++ esc s) ++ ⟨#[39]⟩
set_option maxHeartbeats 1000000 in
theorem print_text (s : ByteArray) (hs : s.size ≤ 64) (w : World) (hw : Sm w) : Calls Tryd.prog 40 #[.agg #[.int .i64 2, .int .i64 0, .string s]] w fun e w' => e = .returned (.tuple #[.string (printT s), .int .i64 0]) ∧ Below w.heap.size w w' := by
  have hm : may 2 0 s = true := by simp [may, hs]
  have HC := Lib.hid (may_any 2 0 s (by omega))
  rw [hm] at HC
  have HR := Lib.hid (fun (W : World) (h : Sm W) => replace_any s (by omega) W h)
  have HW := Lib.hid hw
  clear hm hw
  go_enter Tryd.func40, Tryd.ntmps40
  go_wp2_with fail
  refine (HC.out _).mono ?_
  rintro e w1 ⟨rfl, hb1⟩
  obtain ⟨c0, c1, c2⟩ := (Box.new w 2 0 s).up hb1
  have HB1 := Lib.hid (((Below.refl _ _).alloc (Nat.le_refl _) _).trans (hb1.mono (by simp)) : Below w.heap.size w w1)
  clear hb1
  go_wp2_with fail
  refine (HR.out _ (HW.out.below HB1.out)).mono ?_
  rintro e w2 ⟨rfl, hb2⟩
  have HB2 := Lib.hid (below_trans HB1.out hb2)
  clear hb2
  have he1 := (esc_size s).2
  have he2 : (⟨#[39]⟩ : ByteArray).size = 1 := rfl
  go_wp2
  go_ret2
  exact ⟨rfl, HB2.out⟩
end Go.Proofs.YtjfpkjpicalfmaaDoor
