/-
  THE WALKS OF isNull, ofInt, ofText, ofBool, May both.
-/
import Derived.Test.YtiilhnedflmgoaaWords
namespace Go.Proofs.Ytiilhnedflmgoaa
open Go.RowKit Go.Sort
attribute [local go_sem high] run_eqv run_neqv run_eqs

set_option maxRecDepth 100000 in
theorem isNull_any (k n : Int) (s : ByteArray) (w : World) : Calls Try.prog 65 #[.agg #[.int .i64 k, .int .i64 n, .string s]] w fun e w' => e = .returned (.bool (veq k n s 0 0 ⟨#[]⟩)) ∧ Below w.heap.size w w' := by
  go_enter Try.func65, Try.ntmps65
  go_wp2
  go_ret
  exact ⟨rfl, (Below.refl _ _).alloc (Nat.le_refl _) _⟩
set_option maxRecDepth 100000 in
theorem ofInt_any (n : Int) (w : World) : Calls Try.prog 66 #[.int .i64 n] w fun e w' => e = .returned (.agg #[.int .i64 1, .int .i64 n, .string ⟨#[]⟩]) ∧ Below w.heap.size w w' := by
  go_enter Try.func66, Try.ntmps66
  go_wp2
  exact bodyPost_ret (v := .agg #[.int .i64 1, .int .i64 n, .string ⟨#[]⟩]) (by simp [results, Try.results66, go_sem]) rfl ⟨rfl, (Below.refl _ _).alloc (Nat.le_refl _) _⟩
set_option maxRecDepth 100000 in
theorem ofText_any (s : ByteArray) (w : World) : Calls Try.prog 67 #[.string s] w fun e w' => e = .returned (.agg #[.int .i64 2, .int .i64 0, .string s]) ∧ Below w.heap.size w w' := by
  go_enter Try.func67, Try.ntmps67
  go_wp2
  exact bodyPost_ret (v := .agg #[.int .i64 2, .int .i64 0, .string s]) (by simp [results, Try.results67, go_sem]) rfl ⟨rfl, (Below.refl _ _).alloc (Nat.le_refl _) _⟩
/-- a Bool's number -/
def bit (b : Bool) : Int := if b then 1 else 0
set_option maxRecDepth 100000 in
theorem ofBool_any (b : Bool) (w : World) : Calls Try.prog 68 #[.bool b] w fun e w' => e = .returned (.agg #[.int .i64 3, .int .i64 (bit b), .string ⟨#[]⟩]) ∧ Below w.heap.size w w' := by
  cases b
  · go_enter Try.func68, Try.ntmps68
    go_wp2
    exact bodyPost_ret (v := .agg #[.int .i64 3, .int .i64 0, .string ⟨#[]⟩]) (by simp [results, Try.results68, go_sem]) rfl ⟨rfl, (Below.refl _ _).alloc (Nat.le_refl _) _⟩
  · go_enter Try.func68, Try.ntmps68
    go_wp2
    exact bodyPost_ret (v := .agg #[.int .i64 3, .int .i64 1, .string ⟨#[]⟩]) (by simp [results, Try.results68, go_sem]) rfl ⟨rfl, (Below.refl _ _).alloc (Nat.le_refl _) _⟩
set_option maxRecDepth 100000 in
theorem may0 (n : Int) (s : ByteArray) (w : World) : Calls Try.prog 39 #[.agg #[.int .i64 0, .int .i64 n, .string s]] w fun e w' => e = .returned (.bool (may 0 n s)) ∧ Below w.heap.size w w' := by
  have e : may 0 n s = veq 0 n s 0 0 ⟨#[]⟩ := by simp [may, veq]
  rw [e]
  clear e
  go_enter Try.func39, Try.ntmps39
  go_wp2_with (go_at_call 65; refine (isNull_any _ _ _ _).mono ?_; rintro e w' ⟨rfl, hb⟩)
  go_ret
  exact ⟨rfl, ((Below.refl _ _).alloc (Nat.le_refl _) _).trans (hb.mono (by simp))⟩
set_option maxRecDepth 100000 in
theorem may1 (n : Int) (s : ByteArray) (w : World) : Calls Try.prog 39 #[.agg #[.int .i64 1, .int .i64 n, .string s]] w fun e w' => e = .returned (.bool (may 1 n s)) ∧ Below w.heap.size w w' := by
  have e : may 1 n s = veq 1 n s 1 n ⟨#[]⟩ := by simp [may, veq]
  rw [e]
  clear e
  obtain ⟨g0, g1, g2⟩ := (Box.new w 1 n s).grown
  go_enter Try.func39, Try.ntmps39
  go_wp2_with fail
  refine wp_region_quiet_below (by kernel_rfl) (by kernel_rfl) ?_
  repeat (go_big_quiet_step ((go_at_call 66; exact Calls.regrown_of (ofInt_any _ _))))
  refine wpQuiet_nil ?_
  intro _ hw'
  obtain ⟨p, rfl⟩ := hw'
  go_wp2
  go_ret
  exact ⟨rfl, below_trans ((Below.refl _ _).alloc (Nat.le_refl _) _) (below_regrown _ _ _)⟩
set_option maxRecDepth 100000 in
theorem may2 (n : Int) (s : ByteArray) (w : World) (hs : s.size ≤ 9223372036854775807) : Calls Try.prog 39 #[.agg #[.int .i64 2, .int .i64 n, .string s]] w fun e w' => e = .returned (.bool (may 2 n s)) ∧ Below w.heap.size w w' := by
  obtain ⟨g0, g1, g2⟩ := (Box.new w 2 n s).grown
  by_cases hn : n = 0
  · subst hn
    have hv : veq 2 0 s 2 0 s = true := by simp [veq, seq_refl]
    have e : may 2 0 s = decide ((s.size : Int) ≤ 64) := by simp [may]; omega
    rw [e]
    clear e
    go_enter Try.func39, Try.ntmps39
    go_wp2_with fail
    refine wp_region_quiet_below (by kernel_rfl) (by kernel_rfl) ?_
    repeat (go_big_quiet_step ((go_at_call 67; exact Calls.regrown_of (ofText_any _ _))))
    refine wpQuiet_nil ?_
    intro _ hw'
    obtain ⟨p, rfl⟩ := hw'
    go_wp2
    go_ret
    exact ⟨rfl, below_trans ((Below.refl _ _).alloc (Nat.le_refl _) _) (below_regrown _ _ _)⟩
  · have hv : veq 2 n s 2 0 s = false := by simp [veq, hn]
    have e : may 2 n s = false := by simp [may, hn]
    rw [e]
    clear e hn
    go_enter Try.func39, Try.ntmps39
    go_wp2_with fail
    refine wp_region_quiet_below (by kernel_rfl) (by kernel_rfl) ?_
    repeat (go_big_quiet_step ((go_at_call 67; exact Calls.regrown_of (ofText_any _ _))))
    refine wpQuiet_nil ?_
    intro _ hw'
    obtain ⟨p, rfl⟩ := hw'
    go_wp2
    go_ret
    exact ⟨rfl, below_trans ((Below.refl _ _).alloc (Nat.le_refl _) _) (below_regrown _ _ _)⟩
set_option maxRecDepth 100000 in
theorem may3 (n : Int) (s : ByteArray) (w : World) : Calls Try.prog 39 #[.agg #[.int .i64 3, .int .i64 n, .string s]] w fun e w' => e = .returned (.bool (may 3 n s)) ∧ Below w.heap.size w w' := by
  obtain ⟨g0, g1, g2⟩ := (Box.new w 3 n s).grown
  by_cases hv : veq 3 n s 3 0 ⟨#[]⟩ = true
  · have e : may 3 n s = true := by
      obtain ⟨_, rfl, rfl⟩ := veq_eq.1 hv
      simp [may, seq_refl]
    rw [e]
    clear e
    have hv : veq 3 n s 3 (bit false) ⟨#[]⟩ = true := hv
    go_enter Try.func39, Try.ntmps39
    go_wp2_with fail
    refine wp_region_quiet_below (by kernel_rfl) (by kernel_rfl) ?_
    repeat (go_big_quiet_step ((go_at_call 68; exact Calls.regrown_of (ofBool_any _ _))))
    refine wpQuiet_nil ?_
    intro _ hw'
    obtain ⟨p, rfl⟩ := hw'
    go_wp2
    go_ret
    exact ⟨rfl, below_trans ((Below.refl _ _).alloc (Nat.le_refl _) _) (below_regrown _ _ _)⟩
  · have hv : veq 3 n s 3 (bit false) ⟨#[]⟩ = false := by show veq 3 n s 3 0 ⟨#[]⟩ = false; simpa using hv
    have e : may 3 n s = veq 3 n s 3 (bit true) ⟨#[]⟩ := by
      have : may 3 n s = (veq 3 n s 3 0 ⟨#[]⟩ || veq 3 n s 3 1 ⟨#[]⟩) := by
        simp only [may, veq]
        generalize seq s ⟨#[]⟩ = q
        cases q <;> simp
      rw [this]
      have hv' : veq 3 n s 3 0 ⟨#[]⟩ = false := hv
      rw [hv']
      rfl
    rw [e]
    clear e
    go_enter Try.func39, Try.ntmps39
    go_wp2_with fail
    refine wp_region_quiet_below (by kernel_rfl) (by kernel_rfl) ?_
    repeat (go_big_quiet_step ((go_at_call 68; exact Calls.regrown_of (ofBool_any _ _))))
    refine wpQuiet_nil ?_
    intro _ hw'
    obtain ⟨p, rfl⟩ := hw'
    go_wp2
    go_ret
    exact ⟨rfl, below_trans ((Below.refl _ _).alloc (Nat.le_refl _) _) (below_regrown _ _ _)⟩
set_option maxRecDepth 100000 in
theorem may_any (k n : Int) (s : ByteArray) (hs : s.size ≤ 9223372036854775807) (w : World) : Calls Try.prog 39 #[.agg #[.int .i64 k, .int .i64 n, .string s]] w fun e w' => e = .returned (.bool (may k n s)) ∧ Below w.heap.size w w' := by
  by_cases h0 : k = 0
  · subst h0; exact may0 n s w
  by_cases h1 : k = 1
  · subst h1; exact may1 n s w
  by_cases h2 : k = 2
  · subst h2; exact may2 n s w hs
  by_cases h3 : k = 3
  · subst h3; exact may3 n s w
  have e : may k n s = false := by simp [may, h0, h1, h2, h3]
  rw [e]
  clear e
  have e0 : (k == 0) = false := by simpa using h0
  have e1 : (k == 1) = false := by simpa using h1
  have e2 : (k == 2) = false := by simpa using h2
  have e3 : (k == 3) = false := by simpa using h3
  clear h0 h1 h2 h3
  go_enter Try.func39, Try.ntmps39
  go_wp2
  go_ret
  exact ⟨rfl, (Below.refl _ _).alloc (Nat.le_refl _) _⟩

set_option maxRecDepth 100000 in
theorem rmay_any (k n : Int) (s : ByteArray) (hs : s.size ≤ 9223372036854775807) (w : World) : Calls Try.prog 34 #[.agg #[.int .i64 k, .int .i64 n, .string s]] w fun e w' => e = .returned (.bool (may k n s)) ∧ Below w.heap.size w w' := by
  by_cases h0 : k = 0
  · subst h0
    by_cases hn : n = 0
    · subst hn
      have e : may 0 0 s = seq s ⟨#[]⟩ := by simp [may]
      rw [e]
      clear e
      go_enter Try.func34, Try.ntmps34
      go_wp2
      go_ret
      exact ⟨rfl, (Below.refl _ _).alloc (Nat.le_refl _) _⟩
    · have e : may 0 n s = false := by simp [may, hn]
      rw [e]
      clear e
      have en : (n == 0) = false := by simpa using hn
      clear hn
      go_enter Try.func34, Try.ntmps34
      go_wp2
      go_ret
      exact ⟨rfl, (Below.refl _ _).alloc (Nat.le_refl _) _⟩
  by_cases h1 : k = 1
  · subst h1
    have e : may 1 n s = seq s ⟨#[]⟩ := by simp [may]
    rw [e]
    clear e h0
    go_enter Try.func34, Try.ntmps34
    go_wp2
    go_ret
    exact ⟨rfl, (Below.refl _ _).alloc (Nat.le_refl _) _⟩
  by_cases h2 : k = 2
  · subst h2
    clear h0 h1
    by_cases hn : n = 0
    · subst hn
      have e : may 2 0 s = decide ((s.size : Int) ≤ 64) := by simp [may]; omega
      rw [e]
      clear e
      go_enter Try.func34, Try.ntmps34
      go_wp2
      go_ret
      exact ⟨rfl, (Below.refl _ _).alloc (Nat.le_refl _) _⟩
    · have e : may 2 n s = false := by simp [may, hn]
      rw [e]
      clear e
      have en : (n == 0) = false := by simpa using hn
      clear hn
      go_enter Try.func34, Try.ntmps34
      go_wp2
      go_ret
      exact ⟨rfl, (Below.refl _ _).alloc (Nat.le_refl _) _⟩
  by_cases h3 : k = 3
  · subst h3
    clear h0 h1 h2
    have e : may 3 n s = (seq s ⟨#[]⟩ && (decide (0 ≤ n) && decide (n ≤ 1))) := by
      simp only [may]
      have : (n == 0 || n == 1) = (decide (0 ≤ n) && decide (n ≤ 1)) := by
        rw [Bool.eq_iff_iff]; simp; omega
      simp [this]
    rw [e]
    clear e
    generalize hq : seq s ⟨#[]⟩ = q
    cases q
    · go_enter Try.func34, Try.ntmps34
      go_wp2
      go_ret
      exact ⟨rfl, (Below.refl _ _).alloc (Nat.le_refl _) _⟩
    · by_cases hn : 0 ≤ n
      · by_cases hm : n ≤ 1
        · have e1 : decide (n ≥ 0) = true := by simpa using hn
          have e2 : decide (n ≤ 1) = true := by simpa using hm
          rw [show (decide (0 ≤ n)) = true by simpa using hn, e2]
          go_enter Try.func34, Try.ntmps34
          go_wp2
          go_ret
          exact ⟨rfl, (Below.refl _ _).alloc (Nat.le_refl _) _⟩
        · have e2 : decide (n ≤ 1) = false := by simpa using hm
          rw [show (decide (0 ≤ n)) = true by simpa using hn, e2]
          go_enter Try.func34, Try.ntmps34
          go_wp2
          go_ret
          exact ⟨rfl, (Below.refl _ _).alloc (Nat.le_refl _) _⟩
      · have e1 : decide (0 ≤ n) = false := by simpa using hn
        rw [e1]
        go_enter Try.func34, Try.ntmps34
        go_wp2
        go_ret
        exact ⟨rfl, (Below.refl _ _).alloc (Nat.le_refl _) _⟩
  have e : may k n s = false := by simp [may, h0, h1, h2, h3]
  rw [e]
  clear e
  have e0 : (k == 0) = false := by simpa using h0
  have e1 : (k == 1) = false := by simpa using h1
  have e2 : (k == 2) = false := by simpa using h2
  have e3 : (k == 3) = false := by simpa using h3
  clear h0 h1 h2 h3
  go_enter Try.func34, Try.ntmps34
  go_wp2
  go_ret
  exact ⟨rfl, (Below.refl _ _).alloc (Nat.le_refl _) _⟩
set_option maxRecDepth 100000 in
theorem may_null {k n : Int} {s : ByteArray} (h : may k n s = true) : veq k n s 0 0 ⟨#[]⟩ = (k == 0) := by
  by_cases hk : k = 0
  · subst hk
    simp [may] at h
    simp [veq, h.1, h.2]
  · have : (k == 0) = false := by simpa using hk
    rw [this]
    simp [veq, hk]
set_option maxRecDepth 100000 in
theorem may_s {k n : Int} {s : ByteArray} (h : may k n s = true) (hk : k ≠ 2) : s = ⟨#[]⟩ := by
  have hb := may_kind h
  have : k = 0 ∨ k = 1 ∨ k = 3 := by omega
  rcases this with rfl | rfl | rfl
  · simp [may, seq_eq] at h; exact h.2
  · simp [may, seq_eq] at h; exact h
  · simp [may, seq_eq] at h; exact h.1
set_option maxRecDepth 100000 in
theorem may_n {k n : Int} {s : ByteArray} (h : may k n s = true) (hk : k = 2) : n = 0 := by
  subst hk
  simp [may] at h
  exact h.1

set_option maxRecDepth 100000 in
theorem below_drewN {B : Nat} {a w : World} (h : Below B a w) (n : Nat) : Below B a (w.drewN n) := ⟨h.os, h.tape, h.output, h.size, h.block⟩
set_option maxRecDepth 100000 in
/-- two boxes, and draws -/
theorem below_two (w : World) (o p : Obj) (n : Nat) : Below w.heap.size w (((w.alloc o).alloc p).drewN n) := below_drewN ((((Below.refl _ _).alloc (Nat.le_refl _) _).alloc (by simp) _)) n

end Go.Proofs.Ytiilhnedflmgoaa
