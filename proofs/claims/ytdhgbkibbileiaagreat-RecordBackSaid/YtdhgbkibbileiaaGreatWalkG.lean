/-
  THE WALK OF counted: the counted number at the front of bytes.
-/
import Derived.Test.YtdhgbkibbileiaaGreatWalkF
namespace Go.Proofs.YtdhgbkibbileiaaGreat
open Go.RowKit

def frontP (l : List Nat) : Nat × Nat := (Cd.front l).getD (0, 0)
def frontV (l : List Nat) : Value := .tuple #[.int .u64 (((frontP l).1 : Nat) : Int), .int .i64 (((frontP l).2 : Nat) : Int)]
set_option maxRecDepth 100000 in
theorem frontV_none {l : List Nat} (h : Cd.front l = none) : Value.tuple #[.int .u64 0, .int .i64 0] = frontV l := by
  unfold frontV frontP
  rw [h]
  rfl
set_option maxRecDepth 100000 in
theorem frontV_some {l : List Nat} {x n : Nat} (h : Cd.front l = some (x, n)) : frontV l = Value.tuple #[.int .u64 (x : Int), .int .i64 (n : Int)] := by
  unfold frontV frontP
  rw [h]
  rfl
set_option maxRecDepth 100000 in
theorem or_seven (k r b : Nat) (hr : r < 128 ^ k) (hb : b % 128 * 128 ^ k + 128 ^ k ≤ 18446744073709551616) :
    bits BinOp.or .u64 (r : Int) (IntKind.u64.wrap ((b : Int) % 128 * 2 ^ (7 * k))) = ((r + b % 128 * 128 ^ k : Nat) : Int) := by
  have e2 : (2 : Nat) ^ (7 * k) = 128 ^ k := by rw [Nat.pow_mul]
  have hpos : 0 < 128 ^ k := Nat.pow_pos (by decide)
  have e : IntKind.u64.wrap ((b : Int) % 128 * 2 ^ (7 * k)) = ((b % 128 * 128 ^ k : Nat) : Int) := by
    have e1 : (b : Int) % 128 * 2 ^ (7 * k) = ((b % 128 * 128 ^ k : Nat) : Int) := by rw [← e2]; simp
    rw [e1, IntKind.wrap_u64]
    omega
  rw [e, u64_or_nat r _ (by omega) (by omega)]
  have h := Nat.two_pow_add_eq_or_of_lt (i := 7 * k) (by rw [e2]; exact hr) (b % 128)
  rw [e2, Nat.mul_comm] at h
  rw [Nat.or_comm, ← h, Nat.add_comm]
set_option maxRecDepth 100000 in
theorem val_take (l : List Nat) (k : Nat) (h : k < l.length) : Cd.val (l.take (k + 1)) = Cd.val (l.take k) + l.getD k 0 % 128 * 128 ^ k := by
  rw [List.take_succ_eq_append_getElem h, Cd.val_snoc]
  simp [h, show min k l.length = k by omega]
set_option maxRecDepth 100000 in
theorem val_take_lt (l : List Nat) (k : Nat) : Cd.val (l.take k) < 128 ^ k :=
  Nat.lt_of_lt_of_le (Cd.val_lt _) (Nat.pow_le_pow_right (by omega) (by simp; omega))

set_option maxRecDepth 100000 in
set_option maxHeartbeats 1000000 in
theorem counted_any (w : World) (T : Nat → Prop) (A : Option Addr) (n c : Nat) (l : List Nat) (hr : RB w T A n l) (hn : n ≤ 140737488351232) :
    Calls Tryz.prog 134 #[.slice A n c] w fun e w' => e = .returned (frontV l) ∧ w = w' := by
  have HRB := Lib.hid hr
  clear hr
  go_enter Tryz.func134, Tryz.ntmps134
  go_wp2
  go_loop [4, 9] (fun y i => ∃ k r : Nat, k ≤ n ∧ k ≤ 9 ∧ (∀ j, j < k → 128 ≤ l.getD j 0) ∧ i = .int .i64 (k : Int) ∧ r = Cd.val (l.take k) ∧ y = .int .u64 (r : Int)) (fun _ i => n - (intOf i).toNat)
  case atStart => exact ⟨0, 0, by omega, by omega, by omega, rfl, by simp [Cd.val], rfl⟩
  case round =>
    obtain ⟨k, r, hk, hk9, hm, rfl, hr, rfl⟩ := hrel
    have HR := Lib.hid hr
    have HM := Lib.hid hm
    clear hr hm
    by_cases hlt : k < n
    · obtain ⟨ad, rfl, hx, hc⟩ := HRB.out.at_ hlt
      obtain ⟨b, hb⟩ : ∃ b, b = l.getD k 0 := ⟨_, rfl⟩
      rw [← hb] at hx hc
      have HB := Lib.hid hb
      clear hb
      by_cases h9 : k = 9
      · have hke : ((k : Int) == 9) = true := by simp; omega
        have hk10 : 9 ≤ k := by omega
        clear h9
        by_cases hb1 : 1 < b
        · go_wp2
          go_ret2
          have hl := HRB.out.len
          refine ⟨congrArg _ (frontV_none (Cd.front_none ?_)), rfl⟩
          have e9 : k = 9 := by omega
          have hb := HB.out
          rw [e9] at hb
          have h9 := Cd.lead_ge l k (by omega) HM.out
          omega
        · by_cases hb0 : b = 0
          · have hbe : ((b : Int) == 0) = true := by simp; omega
            have hb00 : b ≤ 0 := by omega
            clear hb0
            go_wp2
            go_ret2
            have hl := HRB.out.len
            refine ⟨congrArg _ (frontV_none (Cd.front_none ?_)), rfl⟩
            have hb := HB.out
            have he := Cd.lead_eq l k (by omega) HM.out (by omega)
            rw [he]
            omega
          · have hbe : ((b : Int) == 0) = false := by simp; omega
            have hb00 : 0 < b := by omega
            clear hb0
            go_wp2
            go_ret2
            have hl := HRB.out.len
            have hb := HB.out
            have he := Cd.lead_eq l k (by omega) HM.out (by omega)
            have e9 : k = 9 := by omega
            have hf : Cd.front l = some (Cd.val (l.take (k + 1)), k + 1) := by
              rw [Cd.front_some (by omega) (by omega) (by intro _; rw [← e9, ← hb]; omega) (by intro _; rw [he, ← hb]; omega), he]
            have hrl : r < 128 ^ k := by rw [HR.out]; exact val_take_lt l k
            have hb1' : b = 1 := by omega
            have e128 : 128 ^ k = 9223372036854775808 := by rw [e9]
            rw [frontV_some hf, val_take l k (by omega), ← hb, ← HR.out, ← or_seven k r b hrl (by rw [hb1', e128]; decide)]
            exact ⟨rfl, rfl⟩
      · have hne : ((k : Int) == 9) = false := by simp; omega
        have hk8 : k < 9 := by omega
        clear h9
        have h128 : 128 ^ k ≤ 72057594037927936 := by
          have : 128 ^ k ≤ 128 ^ 8 := Nat.pow_le_pow_right (by omega) (by omega)
          exact this
        have HP := Lib.hid h128
        clear h128
        by_cases hb : 128 ≤ b
        · go_wp2
          go_round
          case rel =>
            have hl := HRB.out.len
            have hrl : r < 128 ^ k := by rw [HR.out]; exact val_take_lt l k
            have hp := HP.out
            have hm : b % 128 * 128 ^ k ≤ 127 * 128 ^ k := Nat.mul_le_mul_right _ (by omega)
            refine ⟨k + 1, r + b % 128 * 128 ^ k, by omega, by omega, ?_, by go_num, ?_, ?_⟩
            · intro j hj
              by_cases hjk : j = k
              · rw [hjk, ← HB.out]; exact hb
              · exact HM.out j (by omega)
            · rw [val_take l k (by omega), HR.out, HB.out]
            · rw [or_seven k r b hrl (by omega)]
          case measure => simp [intOf]; omega
        · by_cases hb0 : b = 0
          · have hbe : ((b : Int) == 0) = true := by simp; omega
            have hb00 : b ≤ 0 := by omega
            clear hb0
            by_cases h0 : 0 < k
            · go_wp2
              go_ret2
              have hl := HRB.out.len
              refine ⟨congrArg _ (frontV_none (Cd.front_none ?_)), rfl⟩
              have hb := HB.out
              have he := Cd.lead_eq l k (by omega) HM.out (by omega)
              rw [he]
              omega
            · go_wp2
              go_ret2
              have hl := HRB.out.len
              have hb' := HB.out
              have he := Cd.lead_eq l k (by omega) HM.out (by omega)
              have hf : Cd.front l = some (Cd.val (l.take (k + 1)), k + 1) := by
                rw [Cd.front_some (by omega) (by omega) (by omega) (by omega), he]
              have hrl : r < 128 ^ k := by rw [HR.out]; exact val_take_lt l k
              have hp := HP.out
              have hm : b % 128 * 128 ^ k ≤ 127 * 128 ^ k := Nat.mul_le_mul_right _ (by omega)
              rw [frontV_some hf, val_take l k (by omega), ← hb', ← HR.out, ← or_seven k r b hrl (by omega)]
              exact ⟨rfl, rfl⟩
          · have hbne : ((b : Int) == 0) = false := by simp; omega
            have hb00 : 0 < b := by omega
            clear hb0
            go_wp2
            go_ret2
            have hl := HRB.out.len
            have hb' := HB.out
            have he := Cd.lead_eq l k (by omega) HM.out (by omega)
            have hf : Cd.front l = some (Cd.val (l.take (k + 1)), k + 1) := by
              rw [Cd.front_some (by omega) (by omega) (by omega) (by intro _; rw [he, ← hb']; omega), he]
            have hrl : r < 128 ^ k := by rw [HR.out]; exact val_take_lt l k
            have hp := HP.out
            have hm : b % 128 * 128 ^ k ≤ 127 * 128 ^ k := Nat.mul_le_mul_right _ (by omega)
            rw [frontV_some hf, val_take l k (by omega), ← hb', ← HR.out, ← or_seven k r b hrl (by omega)]
            exact ⟨rfl, rfl⟩
    · obtain rfl : k = n := by omega
      go_wp2
      go_ret2
      have hl := HRB.out.len
      refine ⟨congrArg _ (frontV_none (Cd.front_none (Or.inl ?_))), rfl⟩
      exact Cd.lead_ge l _ (Nat.le_refl _) fun j hj => HM.out j (by omega)

/-! ### The counted and the signed number, the raw bytes, the fixed numbers of a reader -/
set_option maxRecDepth 100000 in
theorem frontV_eq (l : List Nat) : ∃ x n : Nat, frontV l = .tuple #[.int .u64 (x : Int), .int .i64 (n : Int)] ∧ ((Cd.front l = none ∧ x = 0 ∧ n = 0) ∨ (Cd.front l = some (x, n) ∧ 0 < n ∧ n ≤ l.length ∧ x < 18446744073709551616)) := by
  cases h : Cd.front l with
  | none => exact ⟨0, 0, (frontV_none h).symm, Or.inl ⟨rfl, rfl, rfl⟩⟩
  | some q =>
    obtain ⟨x, n⟩ := q
    have := Cd.front_pos h
    exact ⟨x, n, frontV_some h, Or.inr ⟨rfl, by omega, by omega, Cd.front_lt h⟩⟩

set_option maxRecDepth 100000 in
theorem uint_any (w : World) (S : Nat → Prop) (p : Option Nat) (ok : Bool) (l : List Nat) (h : Rd w S p ok l) :
    Calls Tryz.prog 108 #[ptr p] w fun e w' => e = .returned (.int .u64 ((valO ok (Cd.front l) 0 : Nat) : Int)) ∧ Got w S p ok l (Cd.front l) w' := by
  have HR := Lib.hid (readable_any w S p ok l h)
  cases ok with
  | false =>
    have HD := Lib.hid h
    clear h
    go_enter Tryz.func108, Tryz.ntmps108
    go_wp2_with (go_at_call 127; refine HR.out.mono ?_; rintro e w' ⟨rfl, rfl⟩)
    go_ret
    exact ⟨rfl, HD.out, Fr.refl _ _⟩
  | true =>
    obtain ⟨g, rfl⟩ := rd_some h
    have hf := Rd.fault h
    have HD := Lib.hid hf
    obtain ⟨hS, A, m, c, hb, hr, hmc, hm⟩ := h
    have hln := hr.len
    have hc := hb.cell 1
    have hc0 := hb.cell 0
    have hc1 := hb.frozen 0
    have hc2 := hb.frozen 1
    have hcn := counted_any w _ A m c l hr hm
    obtain ⟨x, k, he, hk⟩ := frontV_eq l
    rw [he] at hcn
    have HC := Lib.hid hcn
    have HB := Lib.hid hb
    have HRB := Lib.hid hr
    clear he hcn hf hb hr
    simp only [ptr, Option.map] at HR ⊢
    rcases hk with ⟨hk, rfl, rfl⟩ | ⟨hk, hk0, hkl, hx⟩
    · rw [hk]
      clear hk
      go_enter Tryz.func108, Tryz.ntmps108
      go_wp2_with (first | (go_at_call 127; refine HR.out.mono ?_; rintro e w' ⟨rfl, rfl⟩) | (go_at_call 134; refine HC.out.mono ?_; rintro e w' ⟨rfl, rfl⟩))
      go_ret
      exact ⟨rfl, HD.out⟩
    · rw [hk]
      have hkm : k ≤ m := by omega
      have hkne : ((k : Int) == 0) = false := by simp; omega
      have HT := Lib.hid (Rd.took hS HB.out HRB.out hmc hm hkm)
      clear hk
      go_enter Tryz.func108, Tryz.ntmps108
      go_wp2_with (first | (go_at_call 127; refine HR.out.mono ?_; rintro e w' ⟨rfl, rfl⟩) | (go_at_call 134; refine HC.out.mono ?_; rintro e w' ⟨rfl, rfl⟩))
      all_goals
        go_ret
        have ht := HT.out
        first | rw [if_neg ‹_›] at ht | rw [if_pos ‹_›, show c - k = 0 by omega] at ht
        exact ⟨rfl, ht⟩
end Go.Proofs.YtdhgbkibbileiaaGreat
