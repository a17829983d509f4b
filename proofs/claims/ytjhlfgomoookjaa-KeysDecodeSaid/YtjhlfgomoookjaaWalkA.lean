/-
  THE WALKS OF THE SMALL CALLS OF STAGE 3 IN THIS SEAT: isNull, ofInt, ofText, ofBool, May both, the document's place, Bytes and Order.
-/
import Derived.Test.YtjhlfgomoookjaaWords
namespace Go.Proofs.Ytjhlfgomoookjaa
open Go.RowKit Go.Sort
attribute [local go_sem high] run_eqv run_neqv run_eqs

theorem isNull_any (k n : Int) (s : ByteArray) (w : World) : Calls Try.prog 29 #[.agg #[.int .i64 k, .int .i64 n, .string s]] w fun e w' => e = .returned (.bool (veq k n s 0 0 ⟨#[]⟩)) ∧ Below w.heap.size w w' := by
  go_enter Try.func29, Try.ntmps29
  go_wp2
  go_ret
  exact ⟨rfl, (Below.refl _ _).alloc (Nat.le_refl _) _⟩
theorem ofInt_any (n : Int) (w : World) : Calls Try.prog 30 #[.int .i64 n] w fun e w' => e = .returned (.agg #[.int .i64 1, .int .i64 n, .string ⟨#[]⟩]) ∧ Below w.heap.size w w' := by
  go_enter Try.func30, Try.ntmps30
  go_wp2
  exact bodyPost_ret (v := .agg #[.int .i64 1, .int .i64 n, .string ⟨#[]⟩]) (by simp [results, Try.results30, go_sem]) rfl ⟨rfl, (Below.refl _ _).alloc (Nat.le_refl _) _⟩
theorem ofText_any (s : ByteArray) (w : World) : Calls Try.prog 31 #[.string s] w fun e w' => e = .returned (.agg #[.int .i64 2, .int .i64 0, .string s]) ∧ Below w.heap.size w w' := by
  go_enter Try.func31, Try.ntmps31
  go_wp2
  exact bodyPost_ret (v := .agg #[.int .i64 2, .int .i64 0, .string s]) (by simp [results, Try.results31, go_sem]) rfl ⟨rfl, (Below.refl _ _).alloc (Nat.le_refl _) _⟩
/-- a Bool's number -/
def bit (b : Bool) : Int := if b then 1 else 0
theorem ofBool_any (b : Bool) (w : World) : Calls Try.prog 32 #[.bool b] w fun e w' => e = .returned (.agg #[.int .i64 3, .int .i64 (bit b), .string ⟨#[]⟩]) ∧ Below w.heap.size w w' := by
  cases b
  · go_enter Try.func32, Try.ntmps32
    go_wp2
    exact bodyPost_ret (v := .agg #[.int .i64 3, .int .i64 0, .string ⟨#[]⟩]) (by simp [results, Try.results32, go_sem]) rfl ⟨rfl, (Below.refl _ _).alloc (Nat.le_refl _) _⟩
  · go_enter Try.func32, Try.ntmps32
    go_wp2
    exact bodyPost_ret (v := .agg #[.int .i64 3, .int .i64 1, .string ⟨#[]⟩]) (by simp [results, Try.results32, go_sem]) rfl ⟨rfl, (Below.refl _ _).alloc (Nat.le_refl _) _⟩
theorem rplace_any (k : Int) (hk : 0 ≤ k ∧ k ≤ 3) (w : World) : Calls Try.prog 38 #[.int .i64 k] w fun e w' => e = .returned (.int .i64 (place k)) ∧ w' = w := by
  have h : k = 0 ∨ k = 1 ∨ k = 2 ∨ k = 3 := by omega
  clear hk
  rcases h with rfl | rfl | rfl | rfl
  all_goals
    go_enter Try.func38, Try.ntmps38
    go_wp2
    go_ret
    exact ⟨rfl, rfl⟩
theorem less_cmp (a b : ByteArray) : Op.bytesLess a.toList b.toList = decide (cmpS a b = -1) := bytesLess_cmp _ _
theorem may0 (n : Int) (s : ByteArray) (w : World) : Calls Try.prog 22 #[.agg #[.int .i64 0, .int .i64 n, .string s]] w fun e w' => e = .returned (.bool (may 0 n s)) ∧ Below w.heap.size w w' := by
  have e : may 0 n s = veq 0 n s 0 0 ⟨#[]⟩ := by simp [may, veq]
  rw [e]
  clear e
  go_enter Try.func22, Try.ntmps22
  go_wp2_with (go_at_call 29; refine (isNull_any _ _ _ _).mono ?_; rintro e w' ⟨rfl, hb⟩)
  go_ret
  exact ⟨rfl, ((Below.refl _ _).alloc (Nat.le_refl _) _).trans (hb.mono (by simp))⟩
theorem may1 (n : Int) (s : ByteArray) (w : World) : Calls Try.prog 22 #[.agg #[.int .i64 1, .int .i64 n, .string s]] w fun e w' => e = .returned (.bool (may 1 n s)) ∧ Below w.heap.size w w' := by
  have e : may 1 n s = veq 1 n s 1 n ⟨#[]⟩ := by simp [may, veq]
  rw [e]
  clear e
  obtain ⟨g0, g1, g2⟩ := (Box.new w 1 n s).grown
  go_enter Try.func22, Try.ntmps22
  go_wp2_with fail
  refine wp_region_quiet_below (by kernel_rfl) (by kernel_rfl) ?_
  repeat (go_big_quiet_step ((go_at_call 30; exact Calls.regrown_of (ofInt_any _ _))))
  refine wpQuiet_nil ?_
  intro _ hw'
  obtain ⟨p, rfl⟩ := hw'
  go_wp2
  go_ret
  exact ⟨rfl, below_trans ((Below.refl _ _).alloc (Nat.le_refl _) _) (below_regrown _ _ _)⟩
theorem may2 (n : Int) (s : ByteArray) (w : World) (hs : s.size ≤ 9223372036854775807) : Calls Try.prog 22 #[.agg #[.int .i64 2, .int .i64 n, .string s]] w fun e w' => e = .returned (.bool (may 2 n s)) ∧ Below w.heap.size w w' := by
  obtain ⟨g0, g1, g2⟩ := (Box.new w 2 n s).grown
  by_cases hn : n = 0
  · subst hn
    have hv : veq 2 0 s 2 0 s = true := by simp [veq, seq_refl]
    have e : may 2 0 s = decide ((s.size : Int) ≤ 64) := by simp [may]; omega
    rw [e]
    clear e
    go_enter Try.func22, Try.ntmps22
    go_wp2_with fail
    refine wp_region_quiet_below (by kernel_rfl) (by kernel_rfl) ?_
    repeat (go_big_quiet_step ((go_at_call 31; exact Calls.regrown_of (ofText_any _ _))))
    refine wpQuiet_nil ?_
    intro _ hw'
    obtain ⟨p, rfl⟩ := hw'
    go_wp2
    go_ret
    exact ⟨rfl, below_trans ((Below.refl _ _).alloc (Nat.le_refl _) _) (below_regrown _ _ _)⟩
  · have hv : veq 2 n s 2 0 s = false := by simp [veq, hn]
    have e : may 2 n s = false := by simp [may, hn]
    rw [e]
    clear e hn
    go_enter Try.func22, Try.ntmps22
    go_wp2_with fail
    refine wp_region_quiet_below (by kernel_rfl) (by kernel_rfl) ?_
    repeat (go_big_quiet_step ((go_at_call 31; exact Calls.regrown_of (ofText_any _ _))))
    refine wpQuiet_nil ?_
    intro _ hw'
    obtain ⟨p, rfl⟩ := hw'
    go_wp2
    go_ret
    exact ⟨rfl, below_trans ((Below.refl _ _).alloc (Nat.le_refl _) _) (below_regrown _ _ _)⟩
theorem may3 (n : Int) (s : ByteArray) (w : World) : Calls Try.prog 22 #[.agg #[.int .i64 3, .int .i64 n, .string s]] w fun e w' => e = .returned (.bool (may 3 n s)) ∧ Below w.heap.size w w' := by
  obtain ⟨g0, g1, g2⟩ := (Box.new w 3 n s).grown
  by_cases hv : veq 3 n s 3 0 ⟨#[]⟩ = true
  · have e : may 3 n s = true := by
      obtain ⟨_, rfl, rfl⟩ := veq_eq.1 hv
      simp [may, seq_refl]
    rw [e]
    clear e
    have hv : veq 3 n s 3 (bit false) ⟨#[]⟩ = true := hv
    go_enter Try.func22, Try.ntmps22
    go_wp2_with fail
    refine wp_region_quiet_below (by kernel_rfl) (by kernel_rfl) ?_
    repeat (go_big_quiet_step ((go_at_call 32; exact Calls.regrown_of (ofBool_any _ _))))
    refine wpQuiet_nil ?_
    intro _ hw'
    obtain ⟨p, rfl⟩ := hw'
    go_wp2
    go_ret
    exact ⟨rfl, below_trans ((Below.refl _ _).alloc (Nat.le_refl _) _) (below_regrown _ _ _)⟩
  · have hv : veq 3 n s 3 (bit false) ⟨#[]⟩ = false := by show veq 3 n s 3 0 ⟨#[]⟩ = false; simpa using hv
    have e : may 3 n s = veq 3 n s 3 (bit true) ⟨#[]⟩ := by
      have : may 3 n s = (veq 3 n s 3 0 ⟨#[]⟩ || veq 3 n s 3 1 ⟨#[]⟩) := by
        simp only [may, veq]
        generalize seq s ⟨#[]⟩ = q
        cases q <;> simp
      rw [this]
      have hv' : veq 3 n s 3 0 ⟨#[]⟩ = false := hv
      rw [hv']
      rfl
    rw [e]
    clear e
    go_enter Try.func22, Try.ntmps22
    go_wp2_with fail
    refine wp_region_quiet_below (by kernel_rfl) (by kernel_rfl) ?_
    repeat (go_big_quiet_step ((go_at_call 32; exact Calls.regrown_of (ofBool_any _ _))))
    refine wpQuiet_nil ?_
    intro _ hw'
    obtain ⟨p, rfl⟩ := hw'
    go_wp2
    go_ret
    exact ⟨rfl, below_trans ((Below.refl _ _).alloc (Nat.le_refl _) _) (below_regrown _ _ _)⟩
theorem may_any (k n : Int) (s : ByteArray) (hs : s.size ≤ 9223372036854775807) (w : World) : Calls Try.prog 22 #[.agg #[.int .i64 k, .int .i64 n, .string s]] w fun e w' => e = .returned (.bool (may k n s)) ∧ Below w.heap.size w w' := by
  by_cases h0 : k = 0
  · subst h0; exact may0 n s w
  by_cases h1 : k = 1
  · subst h1; exact may1 n s w
  by_cases h2 : k = 2
  · subst h2; exact may2 n s w hs
  by_cases h3 : k = 3
  · subst h3; exact may3 n s w
  have e : may k n s = false := by simp [may, h0, h1, h2, h3]
  rw [e]
  clear e
  have e0 : (k == 0) = false := by simpa using h0
  have e1 : (k == 1) = false := by simpa using h1
  have e2 : (k == 2) = false := by simpa using h2
  have e3 : (k == 3) = false := by simpa using h3
  clear h0 h1 h2 h3
  go_enter Try.func22, Try.ntmps22
  go_wp2
  go_ret
  exact ⟨rfl, (Below.refl _ _).alloc (Nat.le_refl _) _⟩

theorem rmay_any (k n : Int) (s : ByteArray) (hs : s.size ≤ 9223372036854775807) (w : World) : Calls Try.prog 20 #[.agg #[.int .i64 k, .int .i64 n, .string s]] w fun e w' => e = .returned (.bool (may k n s)) ∧ Below w.heap.size w w' := by
  by_cases h0 : k = 0
  · subst h0
    by_cases hn : n = 0
    · subst hn
      have e : may 0 0 s = seq s ⟨#[]⟩ := by simp [may]
      rw [e]
      clear e
      go_enter Try.func20, Try.ntmps20
      go_wp2
      go_ret
      exact ⟨rfl, (Below.refl _ _).alloc (Nat.le_refl _) _⟩
    · have e : may 0 n s = false := by simp [may, hn]
      rw [e]
      clear e
      have en : (n == 0) = false := by simpa using hn
      clear hn
      go_enter Try.func20, Try.ntmps20
      go_wp2
      go_ret
      exact ⟨rfl, (Below.refl _ _).alloc (Nat.le_refl _) _⟩
  by_cases h1 : k = 1
  · subst h1
    have e : may 1 n s = seq s ⟨#[]⟩ := by simp [may]
    rw [e]
    clear e h0
    go_enter Try.func20, Try.ntmps20
    go_wp2
    go_ret
    exact ⟨rfl, (Below.refl _ _).alloc (Nat.le_refl _) _⟩
  by_cases h2 : k = 2
  · subst h2
    clear h0 h1
    by_cases hn : n = 0
    · subst hn
      have e : may 2 0 s = decide ((s.size : Int) ≤ 64) := by simp [may]; omega
      rw [e]
      clear e
      go_enter Try.func20, Try.ntmps20
      go_wp2
      go_ret
      exact ⟨rfl, (Below.refl _ _).alloc (Nat.le_refl _) _⟩
    · have e : may 2 n s = false := by simp [may, hn]
      rw [e]
      clear e
      have en : (n == 0) = false := by simpa using hn
      clear hn
      go_enter Try.func20, Try.ntmps20
      go_wp2
      go_ret
      exact ⟨rfl, (Below.refl _ _).alloc (Nat.le_refl _) _⟩
  by_cases h3 : k = 3
  · subst h3
    clear h0 h1 h2
    have e : may 3 n s = (seq s ⟨#[]⟩ && (decide (0 ≤ n) && decide (n ≤ 1))) := by
      simp only [may]
      have : (n == 0 || n == 1) = (decide (0 ≤ n) && decide (n ≤ 1)) := by
        rw [Bool.eq_iff_iff]; simp; omega
      simp [this]
    rw [e]
    clear e
    generalize hq : seq s ⟨#[]⟩ = q
    cases q
    · go_enter Try.func20, Try.ntmps20
      go_wp2
      go_ret
      exact ⟨rfl, (Below.refl _ _).alloc (Nat.le_refl _) _⟩
    · by_cases hn : 0 ≤ n
      · by_cases hm : n ≤ 1
        · have e1 : decide (n ≥ 0) = true := by simpa using hn
          have e2 : decide (n ≤ 1) = true := by simpa using hm
          rw [show (decide (0 ≤ n)) = true by simpa using hn, e2]
          go_enter Try.func20, Try.ntmps20
          go_wp2
          go_ret
          exact ⟨rfl, (Below.refl _ _).alloc (Nat.le_refl _) _⟩
        · have e2 : decide (n ≤ 1) = false := by simpa using hm
          rw [show (decide (0 ≤ n)) = true by simpa using hn, e2]
          go_enter Try.func20, Try.ntmps20
          go_wp2
          go_ret
          exact ⟨rfl, (Below.refl _ _).alloc (Nat.le_refl _) _⟩
      · have e1 : decide (0 ≤ n) = false := by simpa using hn
        rw [e1]
        go_enter Try.func20, Try.ntmps20
        go_wp2
        go_ret
        exact ⟨rfl, (Below.refl _ _).alloc (Nat.le_refl _) _⟩
  have e : may k n s = false := by simp [may, h0, h1, h2, h3]
  rw [e]
  clear e
  have e0 : (k == 0) = false := by simpa using h0
  have e1 : (k == 1) = false := by simpa using h1
  have e2 : (k == 2) = false := by simpa using h2
  have e3 : (k == 3) = false := by simpa using h3
  clear h0 h1 h2 h3
  go_enter Try.func20, Try.ntmps20
  go_wp2
  go_ret
  exact ⟨rfl, (Below.refl _ _).alloc (Nat.le_refl _) _⟩
theorem drop_cons {l : List UInt8} {k : Nat} (h : k < l.length) : l.drop k = l[k] :: l.drop (k + 1) := List.drop_eq_getElem_cons h
theorem toList_data (a : ByteArray) : a.toList = a.data.toList := by rw [ByteArray.toList_eq]
set_option maxHeartbeats 1000000 in
theorem bytes_any (a b : ByteArray) (ha : a.size ≤ 9223372036854775807) (hb : b.size ≤ 9223372036854775807) (w : World) : Calls Try.prog 39 #[.string a, .string b] w fun e w' => e = .returned (.int .i64 (cmpS a b)) ∧ Below w.heap.size w w' := by
  have HA : a.data.toList.length = a.size := rfl
  have HB : b.data.toList.length = b.size := rfl
  have HS : Hid (cmpS a b = cmpL a.data.toList b.data.toList) := by
    show cmpS a b = _
    unfold cmpS
    rw [toList_data, toList_data]
  have HA' := Lib.hid HA
  have HB' := Lib.hid HB
  clear HA HB
  go_enter Try.func39, Try.ntmps39
  go_wp2
  go_loopw [5] (fun i wr => ∃ k : Nat, k ≤ a.size ∧ k ≤ b.size ∧ i = .int .i64 (k : Int) ∧ cmpS a b = cmpL (a.data.toList.drop k) (b.data.toList.drop k) ∧ Below w.heap.size w wr) (fun i _ => a.size - (intOf i).toNat)
  case atStart => exact ⟨0, by omega, by omega, rfl, by simpa using HS.out, Below.refl _ _⟩
  case round =>
    obtain ⟨k, hka, hkb, rfl, hrec, hbel⟩ := hrel
    have HREC := Lib.hid hrec
    have HBEL := Lib.hid hbel
    clear hrec hbel HS
    by_cases h1 : k < a.size
    · by_cases h2 : k < b.size
      · have e1 : a.data.toList.drop k = a[k] :: a.data.toList.drop (k + 1) := drop_cons (by rw [HA'.out]; exact h1)
        have e2 : b.data.toList.drop k = b[k] :: b.data.toList.drop (k + 1) := drop_cons (by rw [HB'.out]; exact h2)
        have hr2 := HREC.out
        rw [e1, e2, cmpL] at hr2
        have HR2 := Lib.hid hr2
        clear hr2 e1 e2
        by_cases l1 : a[k] < b[k]
        · have hr3 := HR2.out
          rw [if_pos l1] at hr3
          have HR3 := Lib.hid hr3
          have d1 : decide (a[k].toNat < b[k].toNat) = true := by
            rw [UInt8.lt_iff_toNat_lt] at l1; simpa using l1
          clear hr3
          go_wp2_with fail
          go_quiet (fail)
          go_wp2_with fail
          go_ret
          exact ⟨by rw [HR3.out]; rfl, ⟨HBEL.out.os, HBEL.out.tape, HBEL.out.output, HBEL.out.size, HBEL.out.block⟩⟩
        · by_cases l2 : b[k] < a[k]
          · have hr3 := HR2.out
            rw [if_neg l1, if_pos l2] at hr3
            have HR3 := Lib.hid hr3
            have d1 : decide (a[k].toNat < b[k].toNat) = false := by
              rw [UInt8.lt_iff_toNat_lt] at l1; simpa using l1
            have d2 : decide (b[k].toNat < a[k].toNat) = true := by
              rw [UInt8.lt_iff_toNat_lt] at l2; simpa using l2
            clear hr3
            go_wp2_with fail
            go_quiet (fail)
            go_wp2_with fail
            go_quiet (fail)
            go_wp2_with fail
            go_ret
            exact ⟨by rw [HR3.out]; rfl, ⟨HBEL.out.os, HBEL.out.tape, HBEL.out.output, HBEL.out.size, HBEL.out.block⟩⟩
          · have hr3 := HR2.out
            rw [if_neg l1, if_neg l2] at hr3
            have HR3 := Lib.hid hr3
            have d1 : decide (a[k].toNat < b[k].toNat) = false := by
              rw [UInt8.lt_iff_toNat_lt] at l1; simpa using l1
            have d2 : decide (b[k].toNat < a[k].toNat) = false := by
              rw [UInt8.lt_iff_toNat_lt] at l2; simpa using l2
            clear hr3 l1 l2
            go_wp2_with fail
            go_quiet (fail)
            go_wp2_with fail
            go_quiet (fail)
            go_wp2_with fail
            go_roundw
            case rel => exact ⟨k + 1, by omega, by omega, by go_num, HR3.out, ⟨HBEL.out.os, HBEL.out.tape, HBEL.out.output, HBEL.out.size, HBEL.out.block⟩⟩
            case measure => simp [intOf]; omega
      · obtain rfl : k = b.size := by omega
        have hr2 : cmpS a b = 1 := by
          rw [HREC.out, drop_cons (l := a.data.toList) (by rw [HA'.out]; exact h1), List.drop_of_length_le (l := b.data.toList) (by rw [HB'.out]; exact Nat.le_refl _), cmpL]
        have HR2 := Lib.hid hr2
        clear hr2
        go_wp2_with fail
        go_ret
        exact ⟨by rw [HR2.out]; rfl, HBEL.out⟩
    · obtain rfl : k = a.size := by omega
      have hr2 : cmpS a b = if a.size < b.size then -1 else 0 := by
        rw [HREC.out, List.drop_of_length_le (l := a.data.toList) (by rw [HA'.out]; exact Nat.le_refl _)]
        by_cases h : a.size < b.size
        · rw [drop_cons (l := b.data.toList) (by rw [HB'.out]; exact h), cmpL, if_pos h]
        · rw [List.drop_of_length_le (l := b.data.toList) (by rw [HB'.out]; omega), cmpL, if_neg h]
      have HR2 := Lib.hid hr2
      clear hr2
      by_cases h : a.size < b.size
      · have hr2 := HR2.out
        rw [if_pos h] at hr2
        have HR3 := Lib.hid hr2
        clear hr2
        go_wp2_with fail
        go_ret
        exact ⟨by rw [HR3.out]; rfl, HBEL.out⟩
      · have hr2 := HR2.out
        rw [if_neg h] at hr2
        have HR3 := Lib.hid hr2
        clear hr2
        go_wp2_with fail
        go_ret
        exact ⟨by rw [HR3.out]; rfl, HBEL.out⟩
theorem may_null {k n : Int} {s : ByteArray} (h : may k n s = true) : veq k n s 0 0 ⟨#[]⟩ = (k == 0) := by
  by_cases hk : k = 0
  · subst hk
    simp [may] at h
    simp [veq, h.1, h.2]
  · have : (k == 0) = false := by simpa using hk
    rw [this]
    simp [veq, hk]
theorem may_s {k n : Int} {s : ByteArray} (h : may k n s = true) (hk : k ≠ 2) : s = ⟨#[]⟩ := by
  have hb := may_kind h
  have : k = 0 ∨ k = 1 ∨ k = 3 := by omega
  rcases this with rfl | rfl | rfl
  · simp [may, seq_eq] at h; exact h.2
  · simp [may, seq_eq] at h; exact h
  · simp [may, seq_eq] at h; exact h.1
theorem may_n {k n : Int} {s : ByteArray} (h : may k n s = true) (hk : k = 2) : n = 0 := by
  subst hk
  simp [may] at h
  exact h.1

theorem below_drewN {B : Nat} {a w : World} (h : Below B a w) (n : Nat) : Below B a (w.drewN n) := ⟨h.os, h.tape, h.output, h.size, h.block⟩
/-- two boxes, and draws -/
theorem below_two (w : World) (o p : Obj) (n : Nat) : Below w.heap.size w (((w.alloc o).alloc p).drewN n) := below_drewN ((((Below.refl _ _).alloc (Nat.le_refl _) _).alloc (by simp) _)) n

theorem rorder_any (a b : V) (ha : a.may = true) (hb : b.may = true) (hsa : a.s.size ≤ 9223372036854775807) (hsb : b.s.size ≤ 9223372036854775807) (w : World) :
    Calls Try.prog 28 #[.agg #[.int .i64 a.k, .int .i64 a.n, .string a.s], .agg #[.int .i64 b.k, .int .i64 b.n, .string b.s]] w fun e w' => e = .returned (.int .i64 (ord a b)) ∧ Below w.heap.size w w' := by
  obtain ⟨k, n, s⟩ := a
  obtain ⟨k', n', s'⟩ := b
  have ha : may k n s = true := ha
  have hb : may k' n' s' = true := hb
  have hka := may_kind ha
  have hkb := may_kind hb
  simp only at hsa hsb ⊢
  have HC1 := Lib.hid (rplace_any k hka)
  have HC2 := Lib.hid (rplace_any k' hkb)
  have ho : ord ⟨k, n, s⟩ ⟨k', n', s'⟩ = firstOf (Lib.compareInt (place k) (place k')) (Lib.compareInt n n') (cmpS s s') := rfl
  have HO := Lib.hid ho
  clear ho
  rcases Int.lt_trichotomy (place k) (place k') with hp | hp | hp
  · have hr : ord ⟨k, n, s⟩ ⟨k', n', s'⟩ = -1 := by rw [HO.out]; simp [firstOf, Lib.compareInt, hp]
    have d1 : decide (place k < place k') = true := decide_eq_true hp
    rw [hr]
    clear hr ha hb hka hkb hp
    go_enter Try.func28, Try.ntmps28
    go_wp2_with fail
    go_quiet (first | (go_at_call_of 38 (Value.int IntKind.i64 k); exact Calls.quiet_of_same (HC1.out _)) | (go_at_call_of 38 (Value.int IntKind.i64 k'); exact Calls.quiet_of_same (HC2.out _)))
    go_wp2
    go_ret
    exact ⟨rfl, below_two _ _ _ _⟩
  · obtain rfl : k = k' := place_inj hka hkb hp
    have hr : ord ⟨k, n, s⟩ ⟨k, n', s'⟩ = if Lib.compareInt n n' = 0 then cmpS s s' else Lib.compareInt n n' := by rw [HO.out]; simp [firstOf, (cmpI_zero _ _).2 rfl]
    clear hp
    have d1 : decide (place k < place k) = false := by simp
    by_cases hk : k = 2
    · have e1 := may_n ha hk
      have e2 := may_n hb hk
      subst e1 e2
      rw [hr]
      simp only [(cmpI_zero (0 : Int) 0).2 rfl, if_true]
      have ek : (k == 2) = true := by simpa using hk
      clear hr ha hb hka hkb HC2 hk HO
      have HC := Lib.hid (bytes_any s s' hsa hsb)
      go_enter Try.func28, Try.ntmps28
      go_wp2_with fail
      go_quiet ((go_at_call 38; exact Calls.quiet_of_same (HC1.out _)))
      go_wp2_with fail
      refine (HC.out _).mono ?_
      rintro e w2 ⟨rfl, hb⟩
      go_wp2
      go_ret
      exact ⟨rfl, below_trans (below_two _ _ _ _) hb⟩
    · have e1 := may_s ha hk
      have e2 := may_s hb hk
      have hr2 : ord ⟨k, n, s⟩ ⟨k, n', s'⟩ = if n < n' then -1 else if n > n' then 1 else 0 := by
        rw [hr, e1, e2, (cmpS_zero _ _).2 rfl]
        unfold Lib.compareInt
        split
        · simp
        · split <;> simp
      rw [hr2]
      have ek : (k == 2) = false := by simpa using hk
      clear hr ha hb hka hkb HC2 hk HO hr2 e1 e2
      by_cases l1 : n < n'
      · rw [if_pos l1]
        have d2 : decide (n < n') = true := decide_eq_true l1
        clear l1
        go_enter Try.func28, Try.ntmps28
        go_wp2_with fail
        go_quiet ((go_at_call 38; exact Calls.quiet_of_same (HC1.out _)))
        go_wp2
        go_ret
        exact ⟨rfl, below_two _ _ _ _⟩
      · rw [if_neg l1]
        have d2 : decide (n < n') = false := decide_eq_false l1
        clear l1
        by_cases l2 : n > n'
        · rw [if_pos l2]
          have d3 : decide (n > n') = true := decide_eq_true l2
          clear l2
          go_enter Try.func28, Try.ntmps28
          go_wp2_with fail
          go_quiet ((go_at_call 38; exact Calls.quiet_of_same (HC1.out _)))
          go_wp2
          go_ret
          exact ⟨rfl, below_two _ _ _ _⟩
        · rw [if_neg l2]
          have d3 : decide (n > n') = false := decide_eq_false l2
          clear l2
          go_enter Try.func28, Try.ntmps28
          go_wp2_with fail
          go_quiet ((go_at_call 38; exact Calls.quiet_of_same (HC1.out _)))
          go_wp2
          go_ret
          exact ⟨rfl, below_two _ _ _ _⟩
  · have hr : ord ⟨k, n, s⟩ ⟨k', n', s'⟩ = 1 := by
      rw [HO.out]
      have h1 : ¬ place k < place k' := by omega
      simp [firstOf, Lib.compareInt, h1, hp]
    have d1 : decide (place k < place k') = false := decide_eq_false (by omega)
    have d2 : decide (place k > place k') = true := decide_eq_true hp
    rw [hr]
    clear hr ha hb hka hkb hp
    go_enter Try.func28, Try.ntmps28
    go_wp2_with fail
    go_quiet (first | (go_at_call_of 38 (Value.int IntKind.i64 k); exact Calls.quiet_of_same (HC1.out _)) | (go_at_call_of 38 (Value.int IntKind.i64 k'); exact Calls.quiet_of_same (HC2.out _)))
    go_wp2
    go_ret
    exact ⟨rfl, below_two _ _ _ _⟩

end Go.Proofs.Ytjhlfgomoookjaa
