/-
  THE WALKS OF New, empty.
-/
import Derived.Test.YtjblcligkgjbjaaWalkB
namespace Go.Proofs.Ytjblcligkgjbjaa
open Go.RowKit Go.Sort Go.Maps

theorem info69 : (Try.prog.info? 69).map (fun i => (i.zero, i.size, i.bytes)) = some (some (.agg (Array.replicate 512 (.int .u8 0))), 512, 512) := by kernel_rfl
theorem info72 : (Try.prog.info? 72).map (fun i => (i.zero, i.size, i.bytes)) = some (some (.agg (#[.int .i64 0] ++ Array.replicate 512 (.int .u8 0))), 513, 520) := by kernel_rfl

theorem made_rep (x : Value) (k n : Nat) (hk : 0 < k) : madeCells (Array.replicate k x) n = Array.replicate n x := by
  apply Array.ext
  · simp [madeCells]
  · intro i h1 h2
    have : i % k < k := Nat.mod_lt _ hk
    simp [madeCells, this]
theorem secs_zero (n : Nat) : secs (List.replicate n zsec) = List.replicate (n * 512) (.int .u8 0) := by
  rw [secs, zsec, List.flatten_replicate_replicate, u8s, List.map_replicate]
  rfl
theorem run_mksec (n : Nat) (hn2 : n ≤ 8192) (w : World) : (Instr.makeSlice 61 (.int .i64 (n : Int)) (.int .i64 (n : Int))).run Try.prog w = .ok (.slice (some ⟨w.heap.size, 0, none⟩) n n) (w.alloc (.cells (secs (List.replicate n zsec)).toArray 69)) := by
  obtain ⟨i0, hi, hz0, hz1, hz2⟩ := info_parts info69
  have := run_make (P := Try.prog) w 61 69 i0 _ Try.underlying61 hi hz0 .i64 .i64 (n : Int) (n : Int) (by omega) (Int.le_refl _) (by rw [hz2]; omega) (by omega)
  rw [this, hz1]
  simp only [Int.toNat_natCast, Value.cells]
  rw [made_rep _ _ _ (by decide), secs_zero, List.toArray_replicate]
theorem new_any (n : Nat) (hn : 0 < n) (hn2 : n ≤ 8192) (w : World) :
    Calls Try.prog 9 #[.int .i64 (n : Int)] w fun e w' => ∃ g, e = .returned (.tuple #[ptr (some g), .int .i64 0]) ∧ DAt w' (fun b => w.heap.size ≤ b) g (DS.new n) ∧ Below w.heap.size w w' := by
  have hlo : decide ((n : Int) < 1) = false := by simp; omega
  have hhi : decide ((n : Int) > 8192) = false := by simp; omega
  have hms := run_mksec n hn2
  have hmm := @run_makeMap Try.prog
  have HN : DB (((w.alloc (.cells (secs (List.replicate n zsec)).toArray 69)).alloc (.map #[] 0)).alloc (.cells #[.slice (some ⟨w.heap.size, 0, none⟩) n n, .slice none 0 0, .map (some (w.heap.size + 1)), .int .i64 (-1), .bool false, .int .i64 0, .int .i64 0, .int .i64 0] 65))
      (fun b => w.heap.size ≤ b) (w.heap.size + 2) (DS.new n) w.heap.size (w.heap.size + 1) (.slice none 0 0) (-1) := by
    refine ⟨by simp, by simp, by simp, DS.new_ok hn hn2, ?_, ?_, CR.nil_ _ _, ?_, fun _ => rfl⟩
    · have := Blk.new ((w.alloc (.cells (secs (List.replicate n zsec)).toArray 69)).alloc (.map #[] 0)) 65 #[.slice (some ⟨w.heap.size, 0, none⟩) n n, .slice none 0 0, .map (some (w.heap.size + 1)), .int .i64 (-1), .bool false, .int .i64 0, .int .i64 0, .int .i64 0]
      simp only [World.size_alloc] at this
      simp only [dcs, DS.new, List.length_replicate]
      exact this
    · exact ((Blk.new w 69 _).alloc _).alloc _
    · have := (IM.new (w.alloc (.cells (secs (List.replicate n zsec)).toArray 69))).stays (w' := ((w.alloc (.cells (secs (List.replicate n zsec)).toArray 69)).alloc (.map #[] 0)).alloc (.cells #[.slice (some ⟨w.heap.size, 0, none⟩) n n, .slice none 0 0, .map (some (w.heap.size + 1)), .int .i64 (-1), .bool false, .int .i64 0, .int .i64 0, .int .i64 0] 65)) (Below.heap_alloc _ _ _ (by simp))
      simp only [World.size_alloc] at this
      exact this
  have HN := Lib.hid HN
  go_enter Try.func9, Try.ntmps9
  go_wp2
  go_ret2
  exact ⟨_, rfl, ⟨_, _, _, _, HN.out⟩, (((Below.refl _ _).alloc (Nat.le_refl _) _).alloc (by simp) _).alloc (by simp; omega) _⟩
theorem new_none (n : Int) (h : n < 1 ∨ 8192 < n) (w : World) :
    Calls Try.prog 9 #[.int .i64 n] w fun e w' => e = .returned (.tuple #[ptr none, .int .i64 1]) ∧ w = w' := by
  by_cases hlo : n < 1
  · have hlo' : decide (n < 1) = true := by simpa using hlo
    go_enter Try.func9, Try.ntmps9
    go_wp2
    go_ret2
    exact ⟨rfl, rfl⟩
  · have hlo' : decide (n < 1) = false := by simpa using hlo
    have hhi : decide (n > 8192) = true := by simp; omega
    go_enter Try.func9, Try.ntmps9
    go_wp2
    go_ret2
    exact ⟨rfl, rfl⟩
end Go.Proofs.Ytjblcligkgjbjaa
