/-
  THE WALK OF SumParts: a sum goes on from the sum of what stands ahead, wherever bytes are cut.
-/
import Derived.Test.YtdmfkmaelebogaaWalkF

namespace Go.Proofs.Ytdmfkmaelebogaa.sumParts
open Go.RowKit

theorem q_left {P : Program} {f : FuncId} {args : Array Value} {w : World} {n : Nat} {v : Value}
    (h : Calls P f args (w.drewN n) fun e w' => e = .returned v ∧ w.drewN n = w') : Calls P f args (w.drewN n) fun e w'' => e = .returned v ∧ ∃ m, w'' = w.drewN m :=
  h.mono fun _ _ ⟨he, hm⟩ => ⟨he, n, hm.symm⟩
theorem q_add {P : Program} {f : FuncId} {args : Array Value} {w : World} {a n : Nat} {v : Value}
    (h : Calls P f args (w.drewN (a + n)) fun e w' => e = .returned v ∧ w.drewN (a + n) = w') :
    Calls P f args (w.drewN (a + n)) fun e w'' => e = .returned v ∧ ∃ m, w'' = w.drewN (a + m) :=
  h.mono fun _ _ ⟨he, hm⟩ => ⟨he, n, hm.symm⟩

/-- what is behind the cut, at the address that the cut gives it -/
def Cut (w : World) (A : Option Addr) (n c m : Nat) (l : List Nat) : Prop := RB w A m (l.take m) ∧ RB w (if c = m then A else A.map fun x => x.add m) (n - m) (l.drop m)
theorem Cut.ahead {w : World} {A : Option Addr} {n c m : Nat} {l : List Nat} (h : Cut w A n c m l) : RB w A m (l.take m) := h.1
theorem Cut.far {w : World} {A : Option Addr} {n c m : Nat} {l : List Nat} (h : Cut w A n c m l) (hne : ¬ c = m) : RB w (A.map fun x => x.add m) (n - m) (l.drop m) := by
  have := h.2
  rwa [if_neg hne] at this
theorem Cut.near {w : World} {A : Option Addr} {n m : Nat} {l : List Nat} (h : Cut w A n m m l) (hle : n ≤ m) : RB w A 0 (l.drop m) := by
  have := h.2
  rwa [if_pos rfl, show n - m = 0 by omega] at this

theorem facts {s m : Nat} {l : List Nat} (hs : s < 4294967296) (hl : ∀ x ∈ l, x < 256) :
    Crc.more s (l.take m) < 4294967296 ∧ Crc.more 0 (l.take m) < 4294967296 ∧ Crc.more (Crc.more s (l.take m)) (l.drop m) = Crc.more s l ∧ Crc.more (Crc.more 0 (l.take m)) (l.drop m) = Crc.more 0 l := by
  have ht : ∀ x ∈ l.take m, x < 256 := fun x hx => hl x (List.mem_of_mem_take hx)
  refine ⟨Crc.more_lt hs ht, Crc.more_lt (by decide) ht, ?_, ?_⟩
  · rw [Crc.more_parts, List.take_append_drop]
  · rw [Crc.more_parts, List.take_append_drop]

theorem walk_near (s : Nat) (A : Option Addr) (n m : Nat) (l : List Nat) (k : Nat) (w : World) (hs : s < 4294967296) (h : In w A n m l) (hp : 0 < n) (hmod : k % (n + 1) = m) :
    Calls Try.prog 4 #[.int .u32 s, .slice A n m, .int .i64 k] w fun e w' => e = .returned (.bool true) ∧ Below w.heap.size w w' := by
  have hn : n ≤ 140737488351232 := h.2.2.1
  have hc : n ≤ m := h.2.1
  have hle : m ≤ n := by have := Nat.mod_lt k (show 0 < n + 1 by omega); omega
  have HM : Hid (((k : Int) % ((n : Int) + 1)) = (m : Int)) := by
    show ((k : Int) % ((n : Int) + 1)) = (m : Int)
    rw [← hmod]; simp
  have HI := Lib.hid h.1
  have HC : Hid (Cut w A n m m l) := ⟨h.1.take hle, h.1.drop hle hc⟩
  have HF := Lib.hid (facts (m := m) hs h.1.lt)
  clear h hmod
  go_enter Try.func4, Try.ntmps4
  go_wp2
  rw [HM.out]
  go_quiet ((go_at_call 12; first | with_reducible exact q_left (smore_any _ _ _ _ _ _ hs (by simp only [maxLen]; omega) (HC.out.ahead.drewN _)) | with_reducible exact q_left (smore_any _ _ _ _ _ _ HF.out.1 (by simp only [maxLen]; omega) ((HC.out.near hc).drewN _))))
  go_wp2
  go_quiet (first | (go_at_call 10; with_reducible exact q_add (sof_any _ _ _ _ _ (by simp only [maxLen]; omega) (HC.out.ahead.drewN _))) | (go_at_call 12; with_reducible exact q_add (smore_any _ _ _ _ _ _ HF.out.2.1 (by simp only [maxLen]; omega) ((HC.out.near hc).drewN _))))
  rw [HF.out.2.2.1, HF.out.2.2.2]
  go_wp2_with fail
  refine (smore_any s _ _ _ l _ hs (by simp only [maxLen]; omega) (HI.out.drewN _)).mono ?_
  rintro e w3 ⟨rfl, rfl⟩
  go_wp2_with fail
  refine (sof_any _ _ _ l _ (by simp only [maxLen]; omega) (HI.out.drewN _)).mono ?_
  rintro e w3 ⟨rfl, rfl⟩
  go_wp2_with fail
  refine (alive_any _).mono ?_
  rintro e w4 ⟨rfl, hb4⟩
  go_wp2
  go_ret
  exact ⟨rfl, (below_draws (Below.refl _ _) _).trans hb4⟩

theorem walk_far (s : Nat) (A : Option Addr) (n c m : Nat) (l : List Nat) (k : Nat) (w : World) (hs : s < 4294967296) (h : In w A n c l) (hp : 0 < n) (hmod : k % (n + 1) = m) (hne : ¬ c = m) :
    Calls Try.prog 4 #[.int .u32 s, .slice A n c, .int .i64 k] w fun e w' => e = .returned (.bool true) ∧ Below w.heap.size w w' := by
  have hn : n ≤ 140737488351232 := h.2.2.1
  have hc : n ≤ c := h.2.1
  have hle : m ≤ n := by have := Nat.mod_lt k (show 0 < n + 1 by omega); omega
  have HM : Hid (((k : Int) % ((n : Int) + 1)) = (m : Int)) := by
    show ((k : Int) % ((n : Int) + 1)) = (m : Int)
    rw [← hmod]; simp
  have HI := Lib.hid h.1
  have HC : Hid (Cut w A n c m l) := ⟨h.1.take hle, h.1.drop hle hc⟩
  have HF := Lib.hid (facts (m := m) hs h.1.lt)
  clear h hmod
  go_enter Try.func4, Try.ntmps4
  go_wp2
  rw [HM.out]
  go_quiet ((go_at_call 12; first | with_reducible exact q_left (smore_any _ _ _ _ _ _ hs (by simp only [maxLen]; omega) (HC.out.ahead.drewN _)) | with_reducible exact q_left (smore_any _ _ _ _ _ _ HF.out.1 (by simp only [maxLen]; omega) ((HC.out.far hne).drewN _))))
  go_wp2
  go_quiet (first | (go_at_call 10; with_reducible exact q_add (sof_any _ _ _ _ _ (by simp only [maxLen]; omega) (HC.out.ahead.drewN _))) | (go_at_call 12; with_reducible exact q_add (smore_any _ _ _ _ _ _ HF.out.2.1 (by simp only [maxLen]; omega) ((HC.out.far hne).drewN _))))
  rw [HF.out.2.2.1, HF.out.2.2.2]
  go_wp2_with fail
  refine (smore_any s _ _ _ l _ hs (by simp only [maxLen]; omega) (HI.out.drewN _)).mono ?_
  rintro e w3 ⟨rfl, rfl⟩
  go_wp2_with fail
  refine (sof_any _ _ _ l _ (by simp only [maxLen]; omega) (HI.out.drewN _)).mono ?_
  rintro e w3 ⟨rfl, rfl⟩
  go_wp2_with fail
  refine (alive_any _).mono ?_
  rintro e w4 ⟨rfl, hb4⟩
  go_wp2
  go_ret
  exact ⟨rfl, (below_draws (Below.refl _ _) _).trans hb4⟩

theorem Z (s : Nat) (_ : s < 4294967296) : Crc.more s [] = s := by
  unfold Crc.more
  exact Crc.xor_twice s _
theorem zero_any (s : Nat) (A : Option Addr) (c : Nat) (w : World) (hs : s < 4294967296) :
    Calls Try.prog 12 #[.int .u32 s, .slice A 0 c] w fun e w' => e = .returned (.int .u32 s) ∧ w = w' := by
  have h := smore_any s A 0 c [] w hs (by simp [maxLen]) ⟨rfl, by simp, fun h => absurd h (by omega)⟩
  rw [Z s hs] at h
  exact h
theorem zero_of (A : Option Addr) (c : Nat) (w : World) :
    Calls Try.prog 10 #[.slice A 0 c] w fun e w' => e = .returned (.int .u32 0) ∧ w = w' := by
  have h := sof_any A 0 c [] w (by simp [maxLen]) ⟨rfl, by simp, fun h => absurd h (by omega)⟩
  rw [Z 0 (by decide)] at h
  exact h
theorem walk_neg (s : Nat) (A : Option Addr) (n c : Nat) (l : List Nat) (at_ : Int) (w : World) (hs : s < 4294967296) (h : In w A n c l) (hp : 0 < n) (hat : at_ < 0) :
    Calls Try.prog 4 #[.int .u32 s, .slice A n c, .int .i64 at_] w fun e w' => e = .returned (.bool true) ∧ Below w.heap.size w w' := by
  have hn : n ≤ 140737488351232 := h.2.2.1
  have hc : n ≤ c := h.2.1
  have HI := Lib.hid h.1
  clear h
  go_enter Try.func4, Try.ntmps4
  go_wp2
  go_quiet (first | (go_at_call_of 12 (Value.slice A 0 c); exact q_left (zero_any s A c _ hs)) | (go_at_call_of 12 (Value.slice A n c); exact q_left (smore_any s A n c l _ hs (by simp only [maxLen]; omega) (HI.out.drewN _))))
  go_wp2
  go_quiet (first | (go_at_call 10; with_reducible exact q_add (zero_of _ _ _)) | (go_at_call 12; with_reducible exact q_add (smore_any 0 _ _ _ _ _ (by decide) (by simp only [maxLen]; omega) (HI.out.drewN _))))
  go_wp2_with fail
  refine (smore_any s _ _ _ l _ hs (by simp only [maxLen]; omega) (HI.out.drewN _)).mono ?_
  rintro e w3 ⟨rfl, rfl⟩
  go_wp2_with fail
  refine (sof_any _ _ _ l _ (by simp only [maxLen]; omega) (HI.out.drewN _)).mono ?_
  rintro e w3 ⟨rfl, rfl⟩
  go_wp2_with fail
  refine (alive_any _).mono ?_
  rintro e w4 ⟨rfl, hb4⟩
  go_wp2
  go_ret
  exact ⟨rfl, (below_draws (Below.refl _ _) _).trans hb4⟩
theorem walk_zero (s : Nat) (A : Option Addr) (c : Nat) (at_ : Int) (w : World) (hs : s < 4294967296) (h : In w A 0 c []) :
    Calls Try.prog 4 #[.int .u32 s, .slice A 0 c, .int .i64 at_] w fun e w' => e = .returned (.bool true) ∧ Below w.heap.size w w' := by
  have HI := Lib.hid h.1
  clear h
  go_enter Try.func4, Try.ntmps4
  go_wp2
  go_quiet ((go_at_call 12; with_reducible exact q_left (zero_any _ _ _ _ hs)))
  go_wp2
  go_quiet (first | (go_at_call 10; with_reducible exact q_add (zero_of _ _ _)) | (go_at_call 12; with_reducible exact q_add (zero_any 0 _ _ _ (by decide))))
  go_wp2_with fail
  refine (zero_any s _ _ _ hs).mono ?_
  rintro e w3 ⟨rfl, rfl⟩
  go_wp2_with fail
  refine (zero_of _ _ _).mono ?_
  rintro e w3 ⟨rfl, rfl⟩
  go_wp2_with fail
  refine (alive_any _).mono ?_
  rintro e w4 ⟨rfl, hb4⟩
  go_wp2
  go_ret
  exact ⟨rfl, (below_draws (Below.refl _ _) _).trans hb4⟩

theorem walked (s : Nat) (A : Option Addr) (n c : Nat) (l : List Nat) (at_ : Int) (w : World) (hs : s < 4294967296) (h : In w A n c l) (_ : -9223372036854775808 ≤ at_ ∧ at_ ≤ 9223372036854775807) :
    Calls Try.prog 4 #[.int .u32 s, .slice A n c, .int .i64 at_] w fun e w' => e = .returned (.bool true) ∧ Below w.heap.size w w' := by
  rcases Nat.eq_zero_or_pos n with h0 | hp
  · subst h0
    have hl : l = [] := List.eq_nil_of_length_eq_zero h.1.1
    subst hl
    exact walk_zero s A c at_ w hs h
  · by_cases hat : at_ < 0
    · exact walk_neg s A n c l at_ w hs h hp hat
    · obtain ⟨k, rfl⟩ := Int.eq_ofNat_of_zero_le (show 0 ≤ at_ by omega)
      by_cases hm : c = k % (n + 1)
      · subst hm
        exact walk_near s A n _ l k w hs h hp rfl
      · exact walk_far s A n c _ l k w hs h hp rfl hm
end Go.Proofs.Ytdmfkmaelebogaa.sumParts
