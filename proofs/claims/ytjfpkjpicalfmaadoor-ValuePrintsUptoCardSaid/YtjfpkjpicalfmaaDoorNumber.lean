/-
  THE WALK OF the document's Number, of a text without a sign.
-/
import Derived.Test.YtjfpkjpicalfmaaDoorNumMath
namespace Go.Proofs.YtjfpkjpicalfmaaDoor
open Go.RowKit Go.Sort
attribute [local go_sem high] run_eq9

theorem pow19 {k n : Nat} (h : k < n) (hn : n ≤ 19) : 10 ^ (k + 1) ≤ 10000000000000000000 := by
  have : 10 ^ (k + 1) ≤ 10 ^ 19 := Nat.pow_le_pow_right (by decide) (by omega)
  exact this
/-- the number of digits 'd', below 0 or not -/
def numA (b : Bool) (d : List UInt8) : Value := match digs d 0 with | some u => .tuple #[.int .i64 (sgnN u b), .bool (sgnQ u b)] | none => .tuple #[.int .i64 0, .bool false]
theorem seq_size {s : ByteArray} (h : 0 < s.size) : seq s ⟨#[]⟩ = false := by
  rw [Bool.eq_false_iff]
  intro k
  rw [seq_eq] at k
  subst k
  exact absurd h (by decide)
theorem num_empty (w : World) : Calls Tryd.prog 81 #[.string ⟨#[]⟩] w fun e w' => e = .returned (.tuple #[.int .i64 0, .bool false]) ∧ Below w.heap.size w w' := by
  have hq := seq_refl ⟨#[]⟩
  go_enter Tryd.func81, Tryd.ntmps81
  go_wp2
  go_ret2
  exact ⟨rfl, Below.refl _ _⟩
theorem num_long (s : ByteArray) (h1 : 19 < s.size) (hs : s.size ≤ 9223372036854775807) (hb : s[0].toNat ≠ 45) (w : World) : Calls Tryd.prog 81 #[.string s] w fun e w' => e = .returned (.tuple #[.int .i64 0, .bool false]) ∧ Below w.heap.size w w' := by
  have h45 : (s[0].toNat == 45) = false := by simpa using hb
  have h0 : 0 < s.size := by omega
  have hz : (0 : Int) < s.size := by omega
  have hq := seq_size h0
  have hn : (s.size : Int) > 19 := by omega
  clear hb
  go_enter Tryd.func81, Tryd.ntmps81
  go_wp2
  go_ret2
  exact ⟨rfl, Below.refl _ _⟩
theorem num_nought (s : ByteArray) (h1 : 1 < s.size) (hs : s.size ≤ 19) (hb : s[0].toNat = 48) (w : World) : Calls Tryd.prog 81 #[.string s] w fun e w' => e = .returned (.tuple #[.int .i64 0, .bool false]) ∧ Below w.heap.size w w' := by
  have h45 : (s[0].toNat == 45) = false := by rw [hb]; rfl
  have h48 : (s[0].toNat == 48) = true := by rw [hb]; rfl
  have h0 : 0 < s.size := by omega
  have hz : (0 : Int) < s.size := by omega
  have hq := seq_size h0
  have hn : ¬ ((s.size : Int) > 19) := by omega
  have hn1 : (s.size : Int) > 1 := by omega
  go_enter Tryd.func81, Tryd.ntmps81
  go_wp2
  go_ret2
  exact ⟨rfl, Below.refl _ _⟩

set_option maxRecDepth 100000 in
set_option maxHeartbeats 4000000 in
theorem num_plain (s : ByteArray) (h1 : 0 < s.size) (hs : s.size ≤ 19) (hb : s[0].toNat ≠ 45) (hl : s[0].toNat ≠ 48 ∨ s.size = 1) (w : World) :
    Calls Tryd.prog 81 #[.string s] w fun e w' => e = .returned (numA false s.data.toList) ∧ Below w.heap.size w w' := by
  unfold numA
  have HL : s.data.toList.length = s.size := rfl
  have HLL := Lib.hid HL
  have h45 : (s[0].toNat == 45) = false := by simpa using hb
  have hz : (0 : Int) < s.size := by omega
  have hq := seq_size h1
  have hn : ¬ ((s.size : Int) > 19) := by omega
  have SS := Lib.hid signed_any
  have HB := Lib.hid hb
  have HS := Lib.hid hs
  clear HL hb hs
  have HREC : Hid (digs s.data.toList 0 = digs (s.data.toList.drop 0) 0) := rfl
  generalize hD : digs s.data.toList 0 = D at HREC ⊢
  have HD := Lib.hid hD
  clear hD
  by_cases h48 : s[0].toNat = 48
  case neg =>
    clear hl
    go_enter Tryd.func81, Tryd.ntmps81
    go_wp2
    go_loopw [6, 7] (fun a i wr => ∃ k A : Nat, k ≤ s.size ∧ i = .int .i64 (k : Int) ∧ a = .int .u64 (A : Int) ∧ D = digs (s.data.toList.drop k) A ∧ A < 10 ^ k ∧ wr = w) (fun _ i _ => s.size - (intOf i).toNat)
    case atStart => exact ⟨0, 0, by omega, rfl, rfl, HREC.out, by decide, rfl⟩
    case round =>
      obtain ⟨k, A, hk, rfl, rfl, hrec, hA, rfl⟩ := hrel
      have HR := Lib.hid hrec
      have HAA := Lib.hid hA
      clear hrec hA HREC
      by_cases hlt : k < s.size
      · have hkl : k < s.data.toList.length := by rw [HLL.out]; exact hlt
        have hp := pow19 hlt HS.out
        have e1 : s.data.toList.drop k = s[k] :: s.data.toList.drop (k + 1) := drop_cons hkl
        have hr2 := HR.out
        rw [e1, digs] at hr2
        have hkz : (k : Int) < s.size := by omega
        have hA2 := HAA.out
        rw [Nat.pow_succ] at hp
        have hA3 : A * 10 + 9 ≤ 10000000000000000000 := by omega
        by_cases hc : 48 ≤ s[k].toNat ∧ s[k].toNat ≤ 57
        · rw [if_pos hc] at hr2
          have HR2 := Lib.hid hr2
          have d1 : decide (s[k].toNat < 48) = false := decide_eq_false (by omega)
          have d2 : decide (57 < s[k].toNat) = false := decide_eq_false (by omega)
          obtain ⟨g, hg⟩ : ∃ g, s[k].toNat = g := ⟨_, rfl⟩
          have HP := Lib.hid hp
          have HA2 := Lib.hid hA2
          clear e1 hr2 hp hA2
          go_wp2_with fail
          have hA4 := HA2.out
          have hr3 := HR2.out
          rw [hg] at hr3 hc
          refine ⟨⟨k + 1, A * 10 + (g - 48), by omega, by congr 1, ?_, hr3, ?_, trivial⟩, ?_⟩
          · congr 1
            omega
          · rw [Nat.pow_succ]
            omega
          · simp [intOf]
            omega
        · rw [if_neg hc] at hr2
          subst hr2
          clear hp hA2 hA3 e1 HR HD HAA
          by_cases hl1 : s[k].toNat < 48
          · have d1 : decide (s[k].toNat < 48) = true := decide_eq_true hl1
            go_wp2
            go_ret2
            exact ⟨rfl, Below.refl _ _⟩
          · have d1 : decide (s[k].toNat < 48) = false := decide_eq_false hl1
            have d2 : decide (57 < s[k].toNat) = true := decide_eq_true (by omega)
            go_wp2
            go_ret2
            exact ⟨rfl, Below.refl _ _⟩
      · obtain rfl : k = s.size := by omega
        have hr2 := HR.out
        rw [List.drop_of_length_le (by rw [HLL.out]; exact Nat.le_refl _), digs] at hr2
        subst hr2
        clear HR HD
        go_wp2_with fail
        refine (SS.out _ _ _).mono ?_
        rintro e w1 ⟨rfl, hb1⟩
        have HB1 := Lib.hid hb1
        clear hb1
        go_wp2
        go_ret2
        exact ⟨rfl, HB1.out⟩
  case pos =>
    have hn1 : ¬ ((s.size : Int) > 1) := by omega
    clear hl
    go_enter Tryd.func81, Tryd.ntmps81
    go_wp2
    go_loopw [6, 7] (fun a i wr => ∃ k A : Nat, k ≤ s.size ∧ i = .int .i64 (k : Int) ∧ a = .int .u64 (A : Int) ∧ D = digs (s.data.toList.drop k) A ∧ A < 10 ^ k ∧ wr = w) (fun _ i _ => s.size - (intOf i).toNat)
    case atStart => exact ⟨0, 0, by omega, rfl, rfl, HREC.out, by decide, rfl⟩
    case round =>
      obtain ⟨k, A, hk, rfl, rfl, hrec, hA, rfl⟩ := hrel
      have HR := Lib.hid hrec
      have HAA := Lib.hid hA
      clear hrec hA HREC
      by_cases hlt : k < s.size
      · have hkl : k < s.data.toList.length := by rw [HLL.out]; exact hlt
        have hp := pow19 hlt HS.out
        have e1 : s.data.toList.drop k = s[k] :: s.data.toList.drop (k + 1) := drop_cons hkl
        have hr2 := HR.out
        rw [e1, digs] at hr2
        have hkz : (k : Int) < s.size := by omega
        have hA2 := HAA.out
        rw [Nat.pow_succ] at hp
        have hA3 : A * 10 + 9 ≤ 10000000000000000000 := by omega
        by_cases hc : 48 ≤ s[k].toNat ∧ s[k].toNat ≤ 57
        · rw [if_pos hc] at hr2
          have HR2 := Lib.hid hr2
          have d1 : decide (s[k].toNat < 48) = false := decide_eq_false (by omega)
          have d2 : decide (57 < s[k].toNat) = false := decide_eq_false (by omega)
          obtain ⟨g, hg⟩ : ∃ g, s[k].toNat = g := ⟨_, rfl⟩
          have HP := Lib.hid hp
          have HA2 := Lib.hid hA2
          clear e1 hr2 hp hA2
          go_wp2_with fail
          have hA4 := HA2.out
          have hr3 := HR2.out
          rw [hg] at hr3 hc
          refine ⟨⟨k + 1, A * 10 + (g - 48), by omega, by congr 1, ?_, hr3, ?_, trivial⟩, ?_⟩
          · congr 1
            omega
          · rw [Nat.pow_succ]
            omega
          · simp [intOf]
            omega
        · rw [if_neg hc] at hr2
          subst hr2
          clear hp hA2 hA3 e1 HR HD HAA
          by_cases hl1 : s[k].toNat < 48
          · have d1 : decide (s[k].toNat < 48) = true := decide_eq_true hl1
            go_wp2
            go_ret2
            exact ⟨rfl, Below.refl _ _⟩
          · have d1 : decide (s[k].toNat < 48) = false := decide_eq_false hl1
            have d2 : decide (57 < s[k].toNat) = true := decide_eq_true (by omega)
            go_wp2
            go_ret2
            exact ⟨rfl, Below.refl _ _⟩
      · obtain rfl : k = s.size := by omega
        have hr2 := HR.out
        rw [List.drop_of_length_le (by rw [HLL.out]; exact Nat.le_refl _), digs] at hr2
        subst hr2
        clear HR HD
        go_wp2_with fail
        refine (SS.out _ _ _).mono ?_
        rintro e w1 ⟨rfl, hb1⟩
        have HB1 := Lib.hid hb1
        clear hb1
        go_wp2
        go_ret2
        exact ⟨rfl, HB1.out⟩
end Go.Proofs.YtjfpkjpicalfmaaDoor
