/-
  WHAT the document's Number answers: the number whose numeral the text is.
-/
import Derived.Test.YtjfpkjpicalfmaaDoorNumMinus
namespace Go.Proofs.YtjfpkjpicalfmaaDoor
open Go.RowKit Go.Sort Go.Lib

theorem dec_short (k : Nat) : ∀ u : Nat, u < 10 ^ (k + 1) → (decDigits u).length ≤ k + 1 := by
  induction k with
  | zero =>
    intro u hu
    rw [decDigits, dif_pos (by omega)]
    simp
  | succ k ih =>
    intro u hu
    rw [decDigits]
    split
    · simp
    · have := ih (u / 10) (by rw [Nat.pow_succ] at hu; omega)
      simp
      omega
theorem dec_lead (u : Nat) : lead (decDigits u) := by
  induction u using Nat.strongRecOn with
  | ind u ih =>
    intro c r e hc
    rw [decDigits] at e
    split at e
    · simp at e
      exact e.2
    · rename_i h
      obtain ⟨c', r', e', h1, h2⟩ := dec_head (u / 10)
      rw [e'] at e
      simp at e
      obtain ⟨rfl, _⟩ := e
      have h3 := ih (u / 10) (by omega) c' r' e' hc
      subst h3
      have h4 := digs_dec (u / 10)
      rw [e', hc] at h4
      simp [digs] at h4
      omega
/-- a text's number, if it is a numeral -/
def NumOut (s : ByteArray) (e : Ending) : Prop :=
  (∃ n : Int, In64 n ∧ s.data.toList = itoa n ∧ e = .returned (.tuple #[.int .i64 n, .bool true])) ∨
    ((∀ n : Int, In64 n → s.data.toList ≠ itoa n) ∧ ∃ m : Int, e = .returned (.tuple #[.int .i64 m, .bool false]))
theorem itoa_pos {n : Int} (h : ¬ n < 0) : itoa n = decDigits n.toNat := if_neg h
theorem itoa_neg {n : Int} (h : n < 0) : itoa n = 45 :: decDigits n.natAbs := if_pos h
theorem c45 (c : UInt8) (h : c.toNat = 45) : c = 45 := UInt8.toNat_inj.1 (by rw [h]; rfl)
theorem c48 (c : UInt8) (h : c.toNat = 48) : c = 48 := UInt8.toNat_inj.1 (by rw [h]; rfl)
theorem list_at (s : ByteArray) (h : 0 < s.size) : s.data.toList = s[0] :: s.data.toList.drop 1 := by
  have hl : 0 < s.data.toList.length := by rw [Array.length_toList]; exact h
  have := List.drop_eq_getElem_cons hl
  rw [List.drop_zero] at this
  exact this
/-- a numeral without a sign -/
theorem plain_out (s : ByteArray) (h1 : 0 < s.size) (hb : s[0].toNat ≠ 45) (hl : s[0].toNat ≠ 48 ∨ s.size = 1) : NumOut s (.returned (numA false s.data.toList)) := by
  have hlist := list_at s h1
  have hneg : ∀ n : Int, n < 0 → s.data.toList ≠ itoa n := by
    intro n hn e
    rw [itoa_neg hn, hlist] at e
    injection e with e _
    exact hb (by rw [e]; rfl)
  have hlead : lead s.data.toList := by
    intro c r e hc
    rcases hl with hl | hl
    · rw [hlist] at e
      injection e with e _
      exact absurd (by rw [e, hc]; rfl) hl
    · have : s.data.toList.length = 1 := by rw [Array.length_toList]; exact hl
      rw [e] at this
      simp at this
      exact this
  unfold numA
  cases hd : digs s.data.toList 0 with
  | none =>
    refine Or.inr ⟨fun n hn e => ?_, 0, rfl⟩
    by_cases h0 : n < 0
    · exact hneg n h0 e
    · rw [e, itoa_pos h0, digs_dec] at hd
      cases hd
  | some u =>
    have hdec := dec_digs _ s.data.toList u rfl (by rw [hlist]; simp) hlead hd
    by_cases hu : (u : Int) < 9223372036854775808
    · left
      refine ⟨u, by unfold In64; omega, by rw [itoa_pos (by omega)]; simpa using hdec.symm, ?_⟩
      have e1 : sgnN u false = (u : Int) := by simp only [sgnN]; unfold wrap64; simp; omega
      have e2 : sgnQ u false = true := by simp only [sgnQ]; simpa using hu
      simp only [e1, e2]
    · right
      refine ⟨fun n hn e => ?_, sgnN u false, ?_⟩
      · by_cases h0 : n < 0
        · exact hneg n h0 e
        · rw [e, itoa_pos h0, digs_dec] at hd
          injection hd with hd
          have := hn.2
          omega
      · have e2 : sgnQ u false = false := by simp only [sgnQ]; simpa using hu
        simp only [e2]
/-- a numeral with a sign -/
theorem minus_out (s T : ByteArray) (hT : s.data.toList = 45 :: T.data.toList) (h1 : 0 < T.size) (h48 : ¬ T[0].toNat = 48) : NumOut s (.returned (numA true T.data.toList)) := by
  have hlist := list_at T h1
  have hpos : ∀ n : Int, ¬ n < 0 → s.data.toList ≠ itoa n := by
    intro n hn e
    obtain ⟨c, r, e', k1, k2⟩ := dec_head n.toNat
    rw [itoa_pos hn, e', hT] at e
    injection e with e _
    rw [← e] at k1
    exact absurd k1 (by decide)
  have hlead : lead T.data.toList := by
    intro c r e hc
    rw [hlist] at e
    injection e with e _
    exact absurd (by rw [e, hc]; rfl) h48
  unfold numA
  cases hd : digs T.data.toList 0 with
  | none =>
    refine Or.inr ⟨fun n hn e => ?_, 0, rfl⟩
    by_cases h0 : n < 0
    · rw [itoa_neg h0, hT] at e
      injection e with _ e
      rw [e, digs_dec] at hd
      cases hd
    · exact hpos n h0 e
  | some u =>
    have hdec := dec_digs _ T.data.toList u rfl (by rw [hlist]; simp) hlead hd
    have hu0 : u ≠ 0 := by
      intro hu0
      rw [hu0, decDigits, dif_pos (by omega), hlist] at hdec
      injection hdec with e _
      exact h48 (by rw [← e]; rfl)
    by_cases hu : (u : Int) ≤ 9223372036854775808
    · left
      refine ⟨-(u : Int), by unfold In64; omega, ?_, ?_⟩
      · rw [itoa_neg (by omega), hT, show (-(u : Int)).natAbs = u by omega, hdec]
      · have e1 : sgnN u true = -(u : Int) := by
          simp only [sgnN, if_true]
          unfold wrap64
          simp [IntKind.wrap, IntKind.signed, IntKind.bits]
          omega
        have e2 : sgnQ u true = true := by simp only [sgnQ, if_true]; simpa using hu
        simp only [e1, e2]
    · right
      refine ⟨fun n hn e => ?_, sgnN u true, ?_⟩
      · by_cases h0 : n < 0
        · rw [itoa_neg h0, hT] at e
          injection e with _ e
          rw [e, digs_dec] at hd
          injection hd with hd
          have := hn.1
          omega
        · exact hpos n h0 e
      · have e2 : sgnQ u true = false := by simp only [sgnQ, if_true]; simpa using hu
        simp only [e2]
theorem ext_list (s : ByteArray) (h : 0 < s.size) (hb : s[0].toNat = 45) : s.data.toList = 45 :: (s.extract 1 s.size).data.toList := by
  have h1 := list_at s h
  rw [c45 _ hb] at h1
  rw [h1]
  congr 1
  rw [ByteArray.data_extract, Array.toList_extract]
  simp only [List.extract]
  rw [List.take_of_length_le]
  simp
theorem numb_any (s : ByteArray) (hs : s.size ≤ 9223372036854775807) (w : World) : Calls Tryd.prog 81 #[.string s] w fun e w' => NumOut s e ∧ Below w.heap.size w w' := by
  have hlen : s.data.toList.length = s.size := by rw [Array.length_toList]; rfl
  by_cases h0 : s.size = 0
  · have : s = ⟨#[]⟩ := size_nil h0
    subst this
    refine (num_empty w).mono ?_
    rintro e w' ⟨rfl, hb⟩
    refine ⟨Or.inr ⟨fun n _ e => ?_, 0, rfl⟩, hb⟩
    obtain ⟨c, r, e', _⟩ := itoa_head n
    rw [e'] at e
    cases e
  have hpos : 0 < s.size := by omega
  by_cases hb : s[0].toNat = 45
  · have hl := ext_list s hpos hb
    have hz := ext_size s
    generalize hT : s.extract 1 s.size = T at hl hz
    have hTl : T.data.toList.length = T.size := by rw [Array.length_toList]; rfl
    have hpn : ∀ n : Int, ¬ n < 0 → s.data.toList ≠ itoa n := by
      intro n hn e
      obtain ⟨c, r, e', k1, k2⟩ := dec_head n.toNat
      rw [itoa_pos hn, e', hl] at e
      injection e with e _
      rw [← e] at k1
      exact absurd k1 (by decide)
    by_cases hT0 : T.size = 0
    · refine (num_sign s T hT (by omega) hs hb (by rw [seq_eq]; exact size_nil hT0) w).mono ?_
      rintro e w' ⟨rfl, hbl⟩
      refine ⟨Or.inr ⟨fun n _ e => ?_, 0, rfl⟩, hbl⟩
      by_cases hn : n < 0
      · obtain ⟨c, r, e', _⟩ := dec_head n.natAbs
        rw [itoa_neg hn, hl, e'] at e
        injection e with _ e
        have := congrArg List.length e
        simp at this
        omega
      · exact hpn n hn e
    · by_cases hT19 : 19 < T.size
      · refine (num_mlong s T hT (by omega) hs hb hT19 (by omega) w).mono ?_
        rintro e w' ⟨rfl, hbl⟩
        refine ⟨Or.inr ⟨fun n hn64 e => ?_, 0, rfl⟩, hbl⟩
        by_cases hn : n < 0
        · rw [itoa_neg hn, hl] at e
          injection e with _ e
          have h1 := dec_short 18 n.natAbs (by have := hn64.1; omega)
          rw [← e] at h1
          omega
        · exact hpn n hn e
      · by_cases h48 : T[0].toNat = 48
        · refine (num_mnought s T hT (by omega) hs hb (by omega) (by omega) h48 w).mono ?_
          rintro e w' ⟨rfl, hbl⟩
          refine ⟨Or.inr ⟨fun n hn64 e => ?_, 0, rfl⟩, hbl⟩
          by_cases hn : n < 0
          · rw [itoa_neg hn, hl] at e
            injection e with _ e
            have h1 := dec_lead n.natAbs
            have hh := list_at T (by omega)
            rw [← e] at h1
            have h2 := h1 _ _ hh (c48 _ h48)
            rw [h2] at hh
            have h3 := digs_dec n.natAbs
            rw [← e, hh, c48 _ h48] at h3
            simp [digs] at h3
            omega
          · exact hpn n hn e
        · refine (num_minus s T hT (by omega) hs hb (by omega) (by omega) h48 w).mono ?_
          rintro e w' ⟨rfl, hbl⟩
          exact ⟨minus_out s T hl (by omega) h48, hbl⟩
  · have hneg : ∀ n : Int, n < 0 → s.data.toList ≠ itoa n := by
      intro n hn e
      rw [itoa_neg hn, list_at s hpos] at e
      injection e with e _
      exact hb (by rw [e]; rfl)
    by_cases h19 : 19 < s.size
    · refine (num_long s h19 hs hb w).mono ?_
      rintro e w' ⟨rfl, hbl⟩
      refine ⟨Or.inr ⟨fun n hn64 e => ?_, 0, rfl⟩, hbl⟩
      by_cases hn : n < 0
      · exact hneg n hn e
      · rw [itoa_pos hn] at e
        have h1 := dec_short 18 n.toNat (by have := hn64.2; omega)
        rw [← e] at h1
        omega
    · by_cases h48 : s[0].toNat = 48 ∧ 1 < s.size
      · refine (num_nought s h48.2 (by omega) h48.1 w).mono ?_
        rintro e w' ⟨rfl, hbl⟩
        refine ⟨Or.inr ⟨fun n hn64 e => ?_, 0, rfl⟩, hbl⟩
        by_cases hn : n < 0
        · exact hneg n hn e
        · rw [itoa_pos hn] at e
          have h1 := dec_lead n.toNat
          rw [← e] at h1
          have hh := list_at s hpos
          have h2 := h1 _ _ hh (c48 _ h48.1)
          rw [h2] at hh
          have := congrArg List.length hh
          simp at this
          omega
      · refine (num_plain s hpos (by omega) hb (by omega) w).mono ?_
        rintro e w' ⟨rfl, hbl⟩
        exact ⟨plain_out s hpos hb (by omega), hbl⟩
end Go.Proofs.YtjfpkjpicalfmaaDoor
