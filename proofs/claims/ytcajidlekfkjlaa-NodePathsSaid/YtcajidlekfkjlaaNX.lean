/-
STAGE 8: small.
-/
import Derived.Test.YtcajidlekfkjlaaNW
import Derived.Lib.SlBytesConst
namespace Go.Proofs.Ytcajidlekfkjlaa
open Go.RowKit

/-- the pages of the law's small tree -/
def smallP (z : Nat) : PV := ⟨2, 0, 0, some ⟨z + 1 + 1 + 1, 0, none⟩, 2, 2, [⟨true, 0, some ⟨z + 1, 0, none⟩, 1, 1, [98]⟩, ⟨true, 0, some ⟨z + 1 + 1, 0, none⟩, 1, 1, [100]⟩]⟩
def smallT (z : Nat) : TV := ⟨some ⟨z + 1 + 1 + 1 + 1 + 1, 0, none⟩, 1, 1, [⟨7, smallP z⟩], 0, 0⟩
def smallW (w : World) (o0 oP : Obj) : World :=
  (((((w.alloc o0).alloc (.cells #[.int .u8 98] 5 (1, 2))).alloc (.cells #[.int .u8 100] 5 (1, 2))).alloc (.cells #[.bool true, .int .u32 0, .slice (some ⟨w.heap.size + 1, 0, none⟩) 1 1, .bool true, .int .u32 0, .slice (some ⟨w.heap.size + 1 + 1, 0, none⟩) 1 1] 48)).alloc oP).alloc
    (.cells #[.int .u32 7, .int .i64 2, .int .u64 0, .int .u32 0, .slice (some ⟨w.heap.size + 1 + 1 + 1, 0, none⟩) 2 2] 54)
set_option maxRecDepth 100000 in
theorem nxt {w : World} {o x : Obj} {i : Nat} (h : w.heap[i]? = some x) : (w.alloc o).heap[i]? = some x := (Below.heap_alloc w o i (Array.getElem?_eq_some_iff.1 h).1).trans h
set_option maxRecDepth 100000 in
theorem smallW_at (w : World) (o0 oP : Obj) :
    (smallW w o0 oP).heap[w.heap.size]? = some o0 ∧ (smallW w o0 oP).heap[w.heap.size + 1]? = some (.cells #[.int .u8 98] 5 (1, 2)) ∧ (smallW w o0 oP).heap[w.heap.size + 1 + 1]? = some (.cells #[.int .u8 100] 5 (1, 2)) ∧
    (smallW w o0 oP).heap[w.heap.size + 1 + 1 + 1]? = some (.cells #[.bool true, .int .u32 0, .slice (some ⟨w.heap.size + 1, 0, none⟩) 1 1, .bool true, .int .u32 0, .slice (some ⟨w.heap.size + 1 + 1, 0, none⟩) 1 1] 48) ∧
    (smallW w o0 oP).heap[w.heap.size + 1 + 1 + 1 + 1 + 1]? = some (.cells #[.int .u32 7, .int .i64 2, .int .u64 0, .int .u32 0, .slice (some ⟨w.heap.size + 1 + 1 + 1, 0, none⟩) 2 2] 54) ∧ (smallW w o0 oP).heap.size = w.heap.size + 6 ∧ Below w.heap.size w (smallW w o0 oP) := by
  unfold smallW
  have n0 := heap_alloc_new w o0
  have n1 := fun o => heap_alloc_new (w.alloc o0) o
  have n2 := fun o o' => heap_alloc_new ((w.alloc o0).alloc o) o'
  have n3 := fun o o' o'' => heap_alloc_new (((w.alloc o0).alloc o).alloc o') o''
  have n5 := fun o o' o'' p p' => heap_alloc_new (((((w.alloc o0).alloc o).alloc o').alloc o'').alloc p) p'
  simp only [World.size_alloc] at n1 n2 n3 n5
  refine ⟨nxt (nxt (nxt (nxt (nxt n0)))), nxt (nxt (nxt (nxt (n1 _)))), nxt (nxt (nxt (n2 _ _))), nxt (nxt (n3 _ _ _)), n5 _ _ _ _ _, by simp only [World.size_alloc], ?_⟩
  exact ((((((Below.refl _ _).alloc (Nat.le_refl _) _).alloc (by simp only [World.size_alloc]; omega) _).alloc (by simp only [World.size_alloc]; omega) _).alloc (by simp only [World.size_alloc]; omega) _).alloc (by simp only [World.size_alloc]; omega) _).alloc (by simp only [World.size_alloc]; omega) _
set_option maxRecDepth 100000 in
theorem rb_marked {w : World} {g : Nat} {x : Nat} {m : Nat × Nat} {T : Nat → Prop} (h : w.heap[g]? = some (.cells #[.int .u8 (x : Int)] 5 m)) (hx : x < 256) (hT : T g) : RB w T (some ⟨g, 0, none⟩) 1 [x] := by
  refine ⟨rfl, by simpa using hx, fun _ => ⟨_, rfl, (Array.getElem?_eq_some_iff.1 h).1, hT, fun j hj => ?_⟩⟩
  obtain rfl : j = 0 := by omega
  rw [add_head, cell_of_row w g 0 _ 5 m h]
  rfl
set_option maxRecDepth 100000 in
theorem small_in (w : World) (o0 oP : Obj) : (smallT w.heap.size).In (smallW w o0 oP) (fun b => w.heap.size ≤ b) := by
  obtain ⟨_, hB, hD, hC, hI, hs, _⟩ := smallW_at w o0 oP
  have b1 : RB (smallW w o0 oP) (fun b => w.heap.size ≤ b) (some ⟨w.heap.size + 1, 0, none⟩) 1 [98] := rb_marked hB (by omega) (by show _ ≤ _; omega)
  have b2 : RB (smallW w o0 oP) (fun b => w.heap.size ≤ b) (some ⟨w.heap.size + 1 + 1, 0, none⟩) 1 [100] := rb_marked hD (by omega) (by show _ ≤ _; omega)
  have kC : Blk (smallW w o0 oP) (w.heap.size + 1 + 1 + 1) 48 _ := hC
  have kI : Blk (smallW w o0 oP) (w.heap.size + 1 + 1 + 1 + 1 + 1) 54 _ := hI
  have pin : (smallP w.heap.size).In (smallW w o0 oP) (fun b => w.heap.size ≤ b) (fun b => w.heap.size ≤ b) := by
    refine ⟨⟨rfl, ?_, by simp [smallP], fun _ => ⟨_, _, rfl, by rw [hs]; omega, by show _ ≤ _; omega, ?_⟩⟩, by simp [smallP], by simp [smallP], by simp [smallP], by simp [smallP], by simp [smallP], by simp [smallP]⟩
    · intro x hx
      simp only [smallP, List.mem_cons, List.not_mem_nil, or_false] at hx
      rcases hx with rfl | rfl
      · exact ⟨b1, by simp, by simp, by simp, by simp⟩
      · exact ⟨b2, by simp, by simp, by simp, by simp⟩
    · intro i x hi
      have hi2 : i = 0 ∨ i = 1 := by
        rcases Nat.lt_or_ge i 2 with h | h
        · omega
        · rw [List.getElem?_eq_none (by simpa [smallP] using h)] at hi; cases hi
      rcases hi2 with rfl | rfl
      · simp only [smallP, List.getElem?_cons_zero] at hi
        injection hi with hi
        subst hi
        exact ⟨kC.cell 0, kC.cell 1, kC.cell 2⟩
      · simp only [smallP, List.getElem?_cons_zero, List.getElem?_cons_succ] at hi
        injection hi with hi
        subst hi
        exact ⟨kC.cell 3, kC.cell 4, kC.cell 5⟩
  refine ⟨⟨rfl, ?_, by simp [smallP, smallT], fun _ => ⟨_, _, rfl, by rw [hs]; omega, by show _ ≤ _; omega, ?_⟩⟩, by simp [smallP, smallT], by simp [smallP, smallT], by simp [smallT], by simp [smallP, smallT], by simp [smallP, smallT]⟩
  · intro x hx
    simp only [smallT, List.mem_cons, List.not_mem_nil, or_false] at hx
    subst hx
    exact ⟨by simp, pin⟩
  · intro i x hi
    have hi2 : i = 0 := by
      rcases Nat.lt_or_ge i 1 with h | h
      · omega
      · rw [List.getElem?_eq_none (by simpa [smallT] using h)] at hi; cases hi
    subst hi2
    simp only [smallT, List.getElem?_cons_zero] at hi
    injection hi with hi
    subst hi
    exact ⟨kI.cell 0, kI.cell 1, kI.cell 2, kI.cell 3, kI.cell 4⟩
set_option maxRecDepth 100000 in
theorem small_few (z : Nat) : ∀ x ∈ (smallT z).l, Few x.p := by
  intro x hx
  simp only [smallT, List.mem_cons, List.not_mem_nil, or_false] at hx
  subst hx
  exact ⟨by simp [smallP], by simp [smallP]⟩
set_option maxHeartbeats 2000000 in
set_option maxRecDepth 100000 in
theorem small_any (w : World) : Calls Try.prog 18 #[] w fun e w' => e = .returned (smallT w.heap.size).agg ∧ (smallT w.heap.size).In w' (fun b => w.heap.size ≤ b) ∧ Below w.heap.size w w' := by
  have kc := fun (w : World) (C : Array Value) (n c : Nat) => Lib.run_convert_bytes_const (P := Try.prog) w 46 5 C n c Try.underlying46 Try.underlying5
  have kc1 := kc (w.alloc (.cells #[.slice none 0 0, .int .u32 0, .int .i64 0] 26)) #[.int .u8 98] 1 1
  have kc2 := kc ((w.alloc (.cells #[.slice none 0 0, .int .u32 0, .int .i64 0] 26)).alloc (.cells #[.int .u8 98] 5 (1, 2))) #[.int .u8 100] 1 1
  rw [World.size_alloc] at kc1
  rw [World.size_alloc, World.size_alloc] at kc2
  simp only [List.size_toArray, List.length_cons, List.length_nil, Nat.zero_add, Nat.reduceAdd] at kc1 kc2
  clear kc
  go_enter Try.func18, Try.ntmps18
  go_wp2_with fail
  refine bodyPost_ret (v := (smallT w.heap.size).agg) (by simp [results, Try.results18, go_sem, smallT, TV.agg]) rfl ⟨rfl, small_in w _ _, (smallW_at w _ _).2.2.2.2.2.2⟩
end Go.Proofs.Ytcajidlekfkjlaa
