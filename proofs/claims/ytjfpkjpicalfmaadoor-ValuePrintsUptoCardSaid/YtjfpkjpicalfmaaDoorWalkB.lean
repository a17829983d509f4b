/-
  THE WALKS OF May, the program's and the document's.
-/
import Derived.Test.YtjfpkjpicalfmaaDoorWalkA
namespace Go.Proofs.YtjfpkjpicalfmaaDoor
open Go.RowKit Go.Sort
attribute [local go_sem high] run_eq23 run_neq23 run_eq9

theorem may0 (n : Int) (s : ByteArray) (w : World) : Calls Tryd.prog 14 #[.agg #[.int .i64 0, .int .i64 n, .string s]] w fun e w' => e = .returned (.bool (may 0 n s)) ∧ Below w.heap.size w w' := by
  have e : may 0 n s = veq 0 n s 0 0 ⟨#[]⟩ := by simp [may, veq]
  rw [e]
  clear e
  go_enter Tryd.func14, Tryd.ntmps14
  go_wp2_with (go_at_call 48; refine (isNull_any _ _ _ _).mono ?_; rintro e w' ⟨rfl, hb⟩)
  go_ret
  exact ⟨rfl, ((Below.refl _ _).alloc (Nat.le_refl _) _).trans (hb.mono (by simp))⟩
theorem may1 (n : Int) (s : ByteArray) (w : World) : Calls Tryd.prog 14 #[.agg #[.int .i64 1, .int .i64 n, .string s]] w fun e w' => e = .returned (.bool (may 1 n s)) ∧ Below w.heap.size w w' := by
  have e : may 1 n s = veq 1 n s 1 n ⟨#[]⟩ := by simp [may, veq]
  rw [e]
  clear e
  obtain ⟨g0, g1, g2⟩ := (Box.new w 1 n s).grown
  go_enter Tryd.func14, Tryd.ntmps14
  go_wp2_with fail
  refine wp_region_quiet_below (by kernel_rfl) (by kernel_rfl) ?_
  repeat (go_big_quiet_step ((go_at_call 49; exact Calls.regrown_of (ofInt_any _ _))))
  refine wpQuiet_nil ?_
  intro _ hw'
  obtain ⟨p, rfl⟩ := hw'
  go_wp2
  go_ret
  exact ⟨rfl, below_trans ((Below.refl _ _).alloc (Nat.le_refl _) _) (below_regrown _ _ _)⟩
theorem may2 (n : Int) (s : ByteArray) (w : World) (hs : s.size ≤ 9223372036854775807) : Calls Tryd.prog 14 #[.agg #[.int .i64 2, .int .i64 n, .string s]] w fun e w' => e = .returned (.bool (may 2 n s)) ∧ Below w.heap.size w w' := by
  obtain ⟨g0, g1, g2⟩ := (Box.new w 2 n s).grown
  by_cases hn : n = 0
  · subst hn
    have hv : veq 2 0 s 2 0 s = true := by simp [veq, seq_refl]
    have e : may 2 0 s = decide ((s.size : Int) ≤ 64) := by simp [may]; omega
    rw [e]
    clear e
    go_enter Tryd.func14, Tryd.ntmps14
    go_wp2_with fail
    refine wp_region_quiet_below (by kernel_rfl) (by kernel_rfl) ?_
    repeat (go_big_quiet_step ((go_at_call 50; exact Calls.regrown_of (ofText_any _ _))))
    refine wpQuiet_nil ?_
    intro _ hw'
    obtain ⟨p, rfl⟩ := hw'
    go_wp2
    go_ret
    exact ⟨rfl, below_trans ((Below.refl _ _).alloc (Nat.le_refl _) _) (below_regrown _ _ _)⟩
  · have hv : veq 2 n s 2 0 s = false := by simp [veq, hn]
    have e : may 2 n s = false := by simp [may, hn]
    rw [e]
    clear e hn
    go_enter Tryd.func14, Tryd.ntmps14
    go_wp2_with fail
    refine wp_region_quiet_below (by kernel_rfl) (by kernel_rfl) ?_
    repeat (go_big_quiet_step ((go_at_call 50; exact Calls.regrown_of (ofText_any _ _))))
    refine wpQuiet_nil ?_
    intro _ hw'
    obtain ⟨p, rfl⟩ := hw'
    go_wp2
    go_ret
    exact ⟨rfl, below_trans ((Below.refl _ _).alloc (Nat.le_refl _) _) (below_regrown _ _ _)⟩
theorem may3 (n : Int) (s : ByteArray) (w : World) : Calls Tryd.prog 14 #[.agg #[.int .i64 3, .int .i64 n, .string s]] w fun e w' => e = .returned (.bool (may 3 n s)) ∧ Below w.heap.size w w' := by
  obtain ⟨g0, g1, g2⟩ := (Box.new w 3 n s).grown
  by_cases hv : veq 3 n s 3 0 ⟨#[]⟩ = true
  · have e : may 3 n s = true := by
      obtain ⟨_, rfl, rfl⟩ := veq_eq.1 hv
      simp [may, seq_refl]
    rw [e]
    clear e
    have hv : veq 3 n s 3 (bit false) ⟨#[]⟩ = true := hv
    go_enter Tryd.func14, Tryd.ntmps14
    go_wp2_with fail
    refine wp_region_quiet_below (by kernel_rfl) (by kernel_rfl) ?_
    repeat (go_big_quiet_step ((go_at_call 51; exact Calls.regrown_of (ofBool_any _ _))))
    refine wpQuiet_nil ?_
    intro _ hw'
    obtain ⟨p, rfl⟩ := hw'
    go_wp2
    go_ret
    exact ⟨rfl, below_trans ((Below.refl _ _).alloc (Nat.le_refl _) _) (below_regrown _ _ _)⟩
  · have hv : veq 3 n s 3 (bit false) ⟨#[]⟩ = false := by show veq 3 n s 3 0 ⟨#[]⟩ = false; simpa using hv
    have e : may 3 n s = veq 3 n s 3 (bit true) ⟨#[]⟩ := by
      have : may 3 n s = (veq 3 n s 3 0 ⟨#[]⟩ || veq 3 n s 3 1 ⟨#[]⟩) := by
        simp only [may, veq]
        generalize seq s ⟨#[]⟩ = q
        cases q <;> simp
      rw [this]
      have hv' : veq 3 n s 3 0 ⟨#[]⟩ = false := hv
      rw [hv']
      rfl
    rw [e]
    clear e
    go_enter Tryd.func14, Tryd.ntmps14
    go_wp2_with fail
    refine wp_region_quiet_below (by kernel_rfl) (by kernel_rfl) ?_
    repeat (go_big_quiet_step ((go_at_call 51; exact Calls.regrown_of (ofBool_any _ _))))
    refine wpQuiet_nil ?_
    intro _ hw'
    obtain ⟨p, rfl⟩ := hw'
    go_wp2
    go_ret
    exact ⟨rfl, below_trans ((Below.refl _ _).alloc (Nat.le_refl _) _) (below_regrown _ _ _)⟩
theorem may_any (k n : Int) (s : ByteArray) (hs : s.size ≤ 9223372036854775807) (w : World) : Calls Tryd.prog 14 #[.agg #[.int .i64 k, .int .i64 n, .string s]] w fun e w' => e = .returned (.bool (may k n s)) ∧ Below w.heap.size w w' := by
  by_cases h0 : k = 0
  · subst h0; exact may0 n s w
  by_cases h1 : k = 1
  · subst h1; exact may1 n s w
  by_cases h2 : k = 2
  · subst h2; exact may2 n s w hs
  by_cases h3 : k = 3
  · subst h3; exact may3 n s w
  have e : may k n s = false := by simp [may, h0, h1, h2, h3]
  rw [e]
  clear e
  have e0 : (k == 0) = false := by simpa using h0
  have e1 : (k == 1) = false := by simpa using h1
  have e2 : (k == 2) = false := by simpa using h2
  have e3 : (k == 3) = false := by simpa using h3
  clear h0 h1 h2 h3
  go_enter Tryd.func14, Tryd.ntmps14
  go_wp2
  go_ret
  exact ⟨rfl, (Below.refl _ _).alloc (Nat.le_refl _) _⟩

theorem rmay_any (k n : Int) (s : ByteArray) (hs : s.size ≤ 9223372036854775807) (w : World) : Calls Tryd.prog 15 #[.agg #[.int .i64 k, .int .i64 n, .string s]] w fun e w' => e = .returned (.bool (may k n s)) ∧ Below w.heap.size w w' := by
  by_cases h0 : k = 0
  · subst h0
    by_cases hn : n = 0
    · subst hn
      have e : may 0 0 s = seq s ⟨#[]⟩ := by simp [may]
      rw [e]
      clear e
      go_enter Tryd.func15, Tryd.ntmps15
      go_wp2
      go_ret
      exact ⟨rfl, (Below.refl _ _).alloc (Nat.le_refl _) _⟩
    · have e : may 0 n s = false := by simp [may, hn]
      rw [e]
      clear e
      have en : (n == 0) = false := by simpa using hn
      clear hn
      go_enter Tryd.func15, Tryd.ntmps15
      go_wp2
      go_ret
      exact ⟨rfl, (Below.refl _ _).alloc (Nat.le_refl _) _⟩
  by_cases h1 : k = 1
  · subst h1
    have e : may 1 n s = seq s ⟨#[]⟩ := by simp [may]
    rw [e]
    clear e h0
    go_enter Tryd.func15, Tryd.ntmps15
    go_wp2
    go_ret
    exact ⟨rfl, (Below.refl _ _).alloc (Nat.le_refl _) _⟩
  by_cases h2 : k = 2
  · subst h2
    clear h0 h1
    by_cases hn : n = 0
    · subst hn
      have e : may 2 0 s = decide ((s.size : Int) ≤ 64) := by simp [may]; omega
      rw [e]
      clear e
      go_enter Tryd.func15, Tryd.ntmps15
      go_wp2
      go_ret
      exact ⟨rfl, (Below.refl _ _).alloc (Nat.le_refl _) _⟩
    · have e : may 2 n s = false := by simp [may, hn]
      rw [e]
      clear e
      have en : (n == 0) = false := by simpa using hn
      clear hn
      go_enter Tryd.func15, Tryd.ntmps15
      go_wp2
      go_ret
      exact ⟨rfl, (Below.refl _ _).alloc (Nat.le_refl _) _⟩
  by_cases h3 : k = 3
  · subst h3
    clear h0 h1 h2
    have e : may 3 n s = (seq s ⟨#[]⟩ && (decide (0 ≤ n) && decide (n ≤ 1))) := by
      simp only [may]
      have : (n == 0 || n == 1) = (decide (0 ≤ n) && decide (n ≤ 1)) := by
        rw [Bool.eq_iff_iff]; simp; omega
      simp [this]
    rw [e]
    clear e
    generalize hq : seq s ⟨#[]⟩ = q
    cases q
    · go_enter Tryd.func15, Tryd.ntmps15
      go_wp2
      go_ret
      exact ⟨rfl, (Below.refl _ _).alloc (Nat.le_refl _) _⟩
    · by_cases hn : 0 ≤ n
      · by_cases hm : n ≤ 1
        · have e1 : decide (n ≥ 0) = true := by simpa using hn
          have e2 : decide (n ≤ 1) = true := by simpa using hm
          rw [show (decide (0 ≤ n)) = true by simpa using hn, e2]
          go_enter Tryd.func15, Tryd.ntmps15
          go_wp2
          go_ret
          exact ⟨rfl, (Below.refl _ _).alloc (Nat.le_refl _) _⟩
        · have e2 : decide (n ≤ 1) = false := by simpa using hm
          rw [show (decide (0 ≤ n)) = true by simpa using hn, e2]
          go_enter Tryd.func15, Tryd.ntmps15
          go_wp2
          go_ret
          exact ⟨rfl, (Below.refl _ _).alloc (Nat.le_refl _) _⟩
      · have e1 : decide (0 ≤ n) = false := by simpa using hn
        rw [e1]
        go_enter Tryd.func15, Tryd.ntmps15
        go_wp2
        go_ret
        exact ⟨rfl, (Below.refl _ _).alloc (Nat.le_refl _) _⟩
  have e : may k n s = false := by simp [may, h0, h1, h2, h3]
  rw [e]
  clear e
  have e0 : (k == 0) = false := by simpa using h0
  have e1 : (k == 1) = false := by simpa using h1
  have e2 : (k == 2) = false := by simpa using h2
  have e3 : (k == 3) = false := by simpa using h3
  clear h0 h1 h2 h3
  go_enter Tryd.func15, Tryd.ntmps15
  go_wp2
  go_ret
  exact ⟨rfl, (Below.refl _ _).alloc (Nat.le_refl _) _⟩
end Go.Proofs.YtjfpkjpicalfmaaDoor
