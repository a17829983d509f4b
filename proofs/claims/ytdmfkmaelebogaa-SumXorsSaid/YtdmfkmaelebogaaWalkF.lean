/-
  THE WALK OF alive: the answers that the document fixes are given: it returns true, and writes nothing that was there.
-/
import Derived.Test.YtdmfkmaelebogaaWalkE
import Derived.Lib.SlBytesConst
namespace Go.Proofs.Ytdmfkmaelebogaa
open Go.RowKit

def bad5 : List Nat := [49, 131, 146, 6, 227]
def nine : List Nat := [49, 50, 51, 52, 53, 54, 55, 56, 57]
theorem bad5_no : ¬ Crc.Good bad5 := by unfold Crc.Good; decide +kernel
theorem nine_sum : Crc.more 0 nine = 3808858755 := by decide +kernel
theorem nine_seal : (u8s (Crc.seal_ nine)).toArray[9]? = some (.int .u8 131) := by
  have : Crc.seal_ nine = [49, 50, 51, 52, 53, 54, 55, 56, 57, 131, 146, 6, 227] := by decide +kernel
  rw [this]
  rfl
theorem nil_more : Crc.more 305419896 [] = 305419896 := by decide +kernel

theorem bad5_rb (w : World) : RB (w.alloc (.cells #[.int .u8 49, .int .u8 131, .int .u8 146, .int .u8 6, .int .u8 227] 5)) (some ⟨w.heap.size, 0, none⟩) 5 bad5 :=
  RB.of_blk (l := bad5) (Blk.new w 5 _) (by decide) rfl
theorem nine_rb (w : World) : RB (w.alloc (.cells #[.int .u8 49, .int .u8 50, .int .u8 51, .int .u8 52, .int .u8 53, .int .u8 54, .int .u8 55, .int .u8 56, .int .u8 57] 5 (9, 10))) (some ⟨w.heap.size, 0, none⟩) 9 nine := by
  refine ⟨rfl, by decide, fun _ => ⟨_, rfl, by simp, fun j hj => ?_⟩⟩
  have e : (⟨w.heap.size, 0, none⟩ : Addr).add j = ⟨w.heap.size, j, none⟩ := by
    unfold Addr.add
    split
    · rename_i h0; rw [h0]
    · simp
  rw [e, World.cell?_alloc_mark]
  have : ∀ j : Fin 9, (#[Value.int .u8 49, .int .u8 50, .int .u8 51, .int .u8 52, .int .u8 53, .int .u8 54, .int .u8 55, .int .u8 56, .int .u8 57])[j.val]? = some (.int .u8 ((nine.getD j.val 0 : Nat) : Int)) := by
    intro j
    match j with
    | 0 => rfl
    | 1 => rfl
    | 2 => rfl
    | 3 => rfl
    | 4 => rfl
    | 5 => rfl
    | 6 => rfl
    | 7 => rfl
    | 8 => rfl
  exact this ⟨j, hj⟩

theorem alive_any (w : World) : Calls Try.prog 15 #[] w fun e w' => e = .returned (.bool true) ∧ Below w.heap.size w w' := by
  have kc := fun (w : World) (C : Array Value) (n c : Nat) => Lib.run_convert_bytes_const (P := Try.prog) w 23 5 C n c Try.underlying23 Try.underlying5
  go_enter Try.func15, Try.ntmps15
  go_wp2_with fail
  refine (open_no _ 5 5 bad5 _ (by omega) (by omega) (by omega) (bad5_rb w) bad5_no).mono ?_
  rintro e w1 ⟨rfl, hb1⟩
  have hb1' : Below w.heap.size w w1 := ((Below.refl _ _).alloc (Nat.le_refl _) _).trans (hb1.mono (by simp))
  clear hb1
  go_wp2_with fail
  refine (seal_any _ 9 9 nine _ ⟨nine_rb w1, by omega, by omega, by simp⟩).mono ?_
  rintro e w2 ⟨rfl, hb2, hblk⟩
  have hb2' : Below w.heap.size w w2 := (hb1'.alloc hb1'.size _).trans (hb2.mono (by have := hb1'.size; simp; omega))
  have hc := hblk.cell 9
  rw [nine_seal] at hc
  have hz := hblk.lt
  simp only [World.size_alloc] at hc hz
  clear hb2 hblk
  go_wp2_with fail
  refine (sof_any _ 9 9 nine _ (by simp [maxLen]) (nine_rb w2)).mono ?_
  rintro e w3 ⟨rfl, rfl⟩
  rw [nine_sum]
  go_wp2_with fail
  refine (smore_any 305419896 none 0 0 [] _ (by decide) (by simp [maxLen]) RB.nil_).mono ?_
  rintro e w3 ⟨rfl, rfl⟩
  rw [nil_more]
  go_wp2
  go_ret
  exact ⟨rfl, hb2'.alloc hb2'.size _⟩
end Go.Proofs.Ytdmfkmaelebogaa
