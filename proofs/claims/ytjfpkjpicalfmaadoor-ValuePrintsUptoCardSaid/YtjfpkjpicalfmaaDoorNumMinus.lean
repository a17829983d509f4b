/-
  THE WALK OF the document's Number, of a text with a sign; of every text.
-/
import Derived.Test.YtjfpkjpicalfmaaDoorNumber
namespace Go.Proofs.YtjfpkjpicalfmaaDoor
open Go.RowKit Go.Sort
attribute [local go_sem high] run_eq9

theorem ext_size (s : ByteArray) : (s.extract 1 s.size).size = s.size - 1 := by simp
theorem num_sign (s T : ByteArray) (hT : s.extract 1 s.size = T) (h1 : 1 ≤ s.size) (hs : s.size ≤ 9223372036854775807) (hb : s[0].toNat = 45) (h0 : seq T ⟨#[]⟩ = true) (w : World) : Calls Tryd.prog 81 #[.string s] w fun e w' => e = .returned (.tuple #[.int .i64 0, .bool false]) ∧ Below w.heap.size w w' := by
  have h45 : (s[0].toNat == 45) = true := by rw [hb]; rfl
  have hz : (0 : Int) < s.size := by omega
  go_enter Tryd.func81, Tryd.ntmps81
  go_wp2
  go_ret2
  exact ⟨rfl, Below.refl _ _⟩
theorem num_mlong (s T : ByteArray) (hT : s.extract 1 s.size = T) (h1 : 1 ≤ s.size) (hs : s.size ≤ 9223372036854775807) (hb : s[0].toNat = 45) (h0 : 19 < T.size) (hTs : T.size ≤ 9223372036854775807) (w : World) : Calls Tryd.prog 81 #[.string s] w fun e w' => e = .returned (.tuple #[.int .i64 0, .bool false]) ∧ Below w.heap.size w w' := by
  have h45 : (s[0].toNat == 45) = true := by rw [hb]; rfl
  have hz : (0 : Int) < s.size := by omega
  have hq : seq T ⟨#[]⟩ = false := seq_size (by omega)
  have hn : (T.size : Int) > 19 := by omega
  go_enter Tryd.func81, Tryd.ntmps81
  go_wp2
  go_ret2
  exact ⟨rfl, Below.refl _ _⟩
theorem num_mnought (s T : ByteArray) (hT : s.extract 1 s.size = T) (h1 : 1 ≤ s.size) (hs : s.size ≤ 9223372036854775807) (hb : s[0].toNat = 45) (h0 : 0 < T.size) (hTs : T.size ≤ 19) (h48 : T[0].toNat = 48) (w : World) : Calls Tryd.prog 81 #[.string s] w fun e w' => e = .returned (.tuple #[.int .i64 0, .bool false]) ∧ Below w.heap.size w w' := by
  have h45 : (s[0].toNat == 45) = true := by rw [hb]; rfl
  have hz : (0 : Int) < s.size := by omega
  have hq : seq T ⟨#[]⟩ = false := seq_size (by omega)
  have hn : ¬ ((T.size : Int) > 19) := by omega
  have hn1 : (0 : Int) < T.size := by omega
  by_cases h2 : (T.size : Int) > 1
  all_goals
    go_enter Tryd.func81, Tryd.ntmps81
    go_wp2
    go_ret2
    exact ⟨rfl, Below.refl _ _⟩

set_option maxRecDepth 100000 in
set_option maxHeartbeats 4000000 in
theorem num_minus (s T : ByteArray) (hT : s.extract 1 s.size = T) (h1 : 1 ≤ s.size) (hs : s.size ≤ 9223372036854775807) (hb : s[0].toNat = 45) (h0 : 0 < T.size) (hTs : T.size ≤ 19) (h48 : ¬ T[0].toNat = 48) (w : World) :
    Calls Tryd.prog 81 #[.string s] w fun e w' => e = .returned (numA true T.data.toList) ∧ Below w.heap.size w w' := by
  unfold numA
  have HL : T.data.toList.length = T.size := rfl
  have HLL := Lib.hid HL
  have h45 : (s[0].toNat == 45) = true := by rw [hb]; rfl
  have hz : (0 : Int) < s.size := by omega
  have hn1 : (0 : Int) < T.size := by omega
  have hq : seq T ⟨#[]⟩ = false := seq_size h0
  have hn : ¬ ((T.size : Int) > 19) := by omega
  have SS := Lib.hid signed_any
  have HS := Lib.hid hTs
  clear HL hTs
  have HREC : Hid (digs T.data.toList 0 = digs (T.data.toList.drop 0) 0) := rfl
  generalize hD : digs T.data.toList 0 = D at HREC ⊢
  have HD := Lib.hid hD
  clear hD
  go_enter Tryd.func81, Tryd.ntmps81
  go_wp2
  go_loopw [6, 7] (fun a i wr => ∃ k A : Nat, k ≤ T.size ∧ i = .int .i64 (k : Int) ∧ a = .int .u64 (A : Int) ∧ D = digs (T.data.toList.drop k) A ∧ A < 10 ^ k ∧ wr = w) (fun _ i _ => T.size - (intOf i).toNat)
  case atStart => exact ⟨0, 0, by omega, rfl, rfl, HREC.out, by decide, rfl⟩
  case round =>
    obtain ⟨k, A, hk, rfl, rfl, hrec, hA, rfl⟩ := hrel
    have HR := Lib.hid hrec
    have HAA := Lib.hid hA
    clear hrec hA HREC
    by_cases hlt : k < T.size
    · have hkl : k < T.data.toList.length := by rw [HLL.out]; exact hlt
      have hp := pow19 hlt HS.out
      have e1 : T.data.toList.drop k = T[k] :: T.data.toList.drop (k + 1) := drop_cons hkl
      have hr2 := HR.out
      rw [e1, digs] at hr2
      have hkz : (k : Int) < T.size := by omega
      have hA2 := HAA.out
      rw [Nat.pow_succ] at hp
      have hA3 : A * 10 + 9 ≤ 10000000000000000000 := by omega
      by_cases hc : 48 ≤ T[k].toNat ∧ T[k].toNat ≤ 57
      · rw [if_pos hc] at hr2
        have HR2 := Lib.hid hr2
        have d1 : decide (T[k].toNat < 48) = false := decide_eq_false (by omega)
        have d2 : decide (57 < T[k].toNat) = false := decide_eq_false (by omega)
        obtain ⟨g, hg⟩ : ∃ g, T[k].toNat = g := ⟨_, rfl⟩
        have HP := Lib.hid hp
        have HA2 := Lib.hid hA2
        clear e1 hr2 hp hA2
        go_wp2_with fail
        have hA4 := HA2.out
        have hr3 := HR2.out
        rw [hg] at hr3 hc
        refine ⟨⟨k + 1, A * 10 + (g - 48), by omega, by congr 1, ?_, hr3, ?_, trivial⟩, ?_⟩
        · congr 1
          omega
        · rw [Nat.pow_succ]
          omega
        · simp [intOf]
          omega
      · rw [if_neg hc] at hr2
        subst hr2
        clear hp hA2 hA3 e1 HR HD HAA
        by_cases hl1 : T[k].toNat < 48
        · have d1 : decide (T[k].toNat < 48) = true := decide_eq_true hl1
          go_wp2
          go_ret2
          exact ⟨rfl, Below.refl _ _⟩
        · have d1 : decide (T[k].toNat < 48) = false := decide_eq_false hl1
          have d2 : decide (57 < T[k].toNat) = true := decide_eq_true (by omega)
          go_wp2
          go_ret2
          exact ⟨rfl, Below.refl _ _⟩
    · obtain rfl : k = T.size := by omega
      have hr2 := HR.out
      rw [List.drop_of_length_le (by rw [HLL.out]; exact Nat.le_refl _), digs] at hr2
      subst hr2
      clear HR HD
      go_wp2_with fail
      refine (SS.out _ _ _).mono ?_
      rintro e w1 ⟨rfl, hb1⟩
      have HB1 := Lib.hid hb1
      clear hb1
      go_wp2
      go_ret2
      exact ⟨rfl, HB1.out⟩
end Go.Proofs.YtjfpkjpicalfmaaDoor
