/-
  THE WALKS OF take AND OF THE FIXED NUMBERS THAT A READER READS.
-/
import Derived.Test.YtdhgbkibbileiaaGreatWalkE
namespace Go.Proofs.YtdhgbkibbileiaaGreat
open Go.RowKit

set_option maxRecDepth 100000 in
theorem takeO_no {l : List Nat} {n : Int} (h : ¬ (0 ≤ n ∧ n ≤ l.length)) : takeO l n = none := if_neg h
set_option maxRecDepth 100000 in
theorem takeO_yes {l : List Nat} {k : Nat} (h : k ≤ l.length) : takeO l (k : Int) = some (l.take k, k) := by
  unfold takeO
  rw [if_pos (by omega)]
  simp

/-- what take answers -/
def Took (w : World) (S : Nat → Prop) (p : Option Nat) (ok : Bool) (l : List Nat) (n : Int) (e : Ending) (w' : World) : Prop :=
  ∃ A m c, e = .returned (.tuple #[.slice A m c, .bool (okO ok (takeO l n))]) ∧ RB w' (fun b => S b ∧ some b ≠ p) A m (valO ok (takeO l n) []) ∧ m ≤ 140737488351232 ∧
    Rd w' S p (okO ok (takeO l n)) (leftO ok l (takeO l n)) ∧ Fr w w' S

set_option maxRecDepth 100000 in
theorem take_any (w : World) (S : Nat → Prop) (p : Option Nat) (ok : Bool) (l : List Nat) (n : Int) (h1 : -9223372036854775808 ≤ n) (h2 : n ≤ 9223372036854775807) (h : Rd w S p ok l) :
    Calls Tryz.prog 97 #[ptr p, .int .i64 n] w (Took w S p ok l n) := by
  have HR := Lib.hid (readable_any w S p ok l h)
  cases ok with
  | false =>
    have HD := Lib.hid h
    clear h
    go_enter Tryz.func97, Tryz.ntmps97
    go_wp2_with (go_at_call 127; refine HR.out.mono ?_; rintro e w' ⟨rfl, rfl⟩)
    go_ret2
    exact ⟨none, 0, 0, rfl, RB.nil_, by omega, HD.out, Fr.refl _ _⟩
  | true =>
    obtain ⟨g, rfl⟩ := rd_some h
    have hf := Rd.fault h
    have HD := Lib.hid hf
    obtain ⟨hS, A, m, c, hb, hr, hmc, hm⟩ := h
    have hln := hr.len
    have hc := hb.cell 1
    have hc0 := hb.cell 0
    have hc1 := hb.frozen 0
    have hc2 := hb.frozen 1
    simp only [ptr, Option.map] at HR ⊢
    by_cases hn : 0 ≤ n ∧ n ≤ l.length
    · obtain ⟨hn1, hn2⟩ := hn
      obtain ⟨k, rfl⟩ := Int.eq_ofNat_of_zero_le hn1
      have hk : k ≤ m := by omega
      have HT := Lib.hid (Rd.took hS hb hr hmc hm hk)
      have HRB := Lib.hid (hr.take hk)
      have HO := Lib.hid (takeO_yes (l := l) (k := k) (by omega))
      clear hf hb hr hln hn1 hn2
      go_enter Tryz.func97, Tryz.ntmps97
      go_wp2_with (go_at_call 127; refine HR.out.mono ?_; rintro e w' ⟨rfl, rfl⟩)
      all_goals
        go_ret2
        unfold Took
        rw [HO.out]
        refine ⟨A, k, _, rfl, (HRB.out.mono (T := fun b => S b ∧ some b ≠ some g) fun b _ hb => ⟨hb.1, fun e => hb.2 (by injection e)⟩).far (fun hh => hh.2 rfl) _, by omega, ?_⟩
        have ht := HT.out
        first | rw [if_neg ‹_›] at ht | rw [if_pos ‹_›, show c - k = 0 by omega] at ht
        exact ht
    · have HO := Lib.hid (takeO_no hn)
      have hn' : n < 0 ∨ (m : Int) < n := by omega
      clear hf hb hr hln hn
      rcases hn' with hn | hn
      · go_enter Tryz.func97, Tryz.ntmps97
        go_wp2_with (go_at_call 127; refine HR.out.mono ?_; rintro e w' ⟨rfl, rfl⟩)
        go_ret2
        unfold Took
        rw [HO.out]
        exact ⟨none, 0, 0, rfl, RB.nil_, by omega, HD.out⟩
      · have hn0 : ¬ n < 0 := by omega
        go_enter Tryz.func97, Tryz.ntmps97
        go_wp2_with (go_at_call 127; refine HR.out.mono ?_; rintro e w' ⟨rfl, rfl⟩)
        go_ret2
        unfold Took
        rw [HO.out]
        exact ⟨none, 0, 0, rfl, RB.nil_, by omega, HD.out⟩

def fixO (l : List Nat) (k : Nat) : Option (Nat × Nat) := (takeO l k).map fun x => (Cd.unfix x.1, x.2)
set_option maxRecDepth 100000 in
theorem fixO_val (ok : Bool) (l : List Nat) (k : Nat) : valO ok (fixO l k) 0 = Cd.unfix (valO ok (takeO l k) []) := by
  unfold fixO
  cases ok <;> cases takeO l k <;> rfl
set_option maxRecDepth 100000 in
theorem fixO_ok (ok : Bool) (l : List Nat) (k : Nat) : okO ok (fixO l k) = okO ok (takeO l k) := by
  unfold fixO
  cases ok <;> cases takeO l k <;> rfl
set_option maxRecDepth 100000 in
theorem fixO_left (ok : Bool) (l : List Nat) (k : Nat) : leftO ok l (fixO l k) = leftO ok l (takeO l k) := by
  unfold fixO
  cases ok <;> cases takeO l k <;> rfl
set_option maxRecDepth 100000 in
theorem takeO_len (ok : Bool) (l : List Nat) (k : Nat) : (valO ok (takeO l k) []).length ≤ k := by
  cases ok with
  | false => simp [valO]
  | true =>
    unfold takeO
    by_cases h : 0 ≤ (k : Int) ∧ (k : Int) ≤ l.length
    · rw [if_pos h]; simp [valO]; omega
    · rw [if_neg h]; simp [valO]

/-- what a reading call leaves: the answer, the reader behind it -/
def Got {α : Type} (w : World) (S : Nat → Prop) (p : Option Nat) (ok : Bool) (l : List Nat) (o : Option (α × Nat)) (w' : World) : Prop :=
  Rd w' S p (okO ok o) (leftO ok l o) ∧ Fr w w' S
set_option maxRecDepth 100000 in
theorem Got.fix {w w' : World} {S : Nat → Prop} {p : Option Nat} {ok : Bool} {l : List Nat} {k : Nat} (h1 : Rd w' S p (okO ok (takeO l k)) (leftO ok l (takeO l k))) (h2 : Fr w w' S) : Got w S p ok l (fixO l k) w' := by
  unfold Got
  rw [fixO_ok, fixO_left]
  exact ⟨h1, h2⟩
set_option maxRecDepth 100000 in
theorem unfix_step (t : List Nat) (k : Nat) (h : k < t.length) : Cd.unfix (t.take (k + 1)) = Cd.unfix (t.take k) + t.getD k 0 * 256 ^ k := by
  rw [List.take_succ_eq_append_getElem h, Cd.unfix_snoc]
  simp [h, show min k t.length = k by omega]
set_option maxRecDepth 100000 in
theorem unfix_take_lt (t : List Nat) (k : Nat) (ht : ∀ x ∈ t, x < 256) : Cd.unfix (t.take k) < 256 ^ k := by
  refine Nat.lt_of_lt_of_le (Cd.unfix_lt _ fun x hx => ht x (List.mem_of_mem_take hx)) (Nat.pow_le_pow_right (by omega) (by simp; omega))

set_option maxRecDepth 100000 in
theorem or_at8 (k r b : Nat) (hk : k < 1) (hr : r < 256 ^ k) (hb : b < 256) : bits BinOp.or .u8 (r : Int) (IntKind.u8.wrap ((b : Int) * 2 ^ (8 * k))) = ((r + b * 256 ^ k : Nat) : Int) := by
  have e2 : (2 : Nat) ^ (8 * k) = 256 ^ k := by rw [Nat.pow_mul]
  have hp : b * 256 ^ k + 256 ^ k ≤ 256 := by
    have h1 : 256 ^ k ≤ 256 ^ 0 := Nat.pow_le_pow_right (by decide) (by omega)
    have h2 : (b + 1) * 256 ^ k ≤ 256 * 256 ^ 0 := Nat.mul_le_mul (by omega) h1
    have h3 : 256 * 256 ^ 0 = 256 := by decide
    rw [h3, Nat.add_mul, Nat.one_mul] at h2
    exact h2
  have e : IntKind.u8.wrap ((b : Int) * 2 ^ (8 * k)) = ((b * 256 ^ k : Nat) : Int) := by
    have e1 : (b : Int) * 2 ^ (8 * k) = ((b * 256 ^ k : Nat) : Int) := by rw [← e2]; simp
    rw [e1, IntKind.wrap_u8]
    omega
  have hpos : 0 < 256 ^ k := Nat.pow_pos (by decide)
  rw [e, u8_or_nat r _ (by omega) (by omega)]
  have h := Nat.two_pow_add_eq_or_of_lt (i := 8 * k) (by rw [e2]; exact hr) b
  rw [e2, Nat.mul_comm] at h
  rw [Nat.or_comm, ← h, Nat.add_comm]
set_option maxRecDepth 100000 in
theorem or_at16 (k r b : Nat) (hk : k < 2) (hr : r < 256 ^ k) (hb : b < 256) : bits BinOp.or .u16 (r : Int) (IntKind.u16.wrap ((b : Int) * 2 ^ (8 * k))) = ((r + b * 256 ^ k : Nat) : Int) := by
  have e2 : (2 : Nat) ^ (8 * k) = 256 ^ k := by rw [Nat.pow_mul]
  have hp : b * 256 ^ k + 256 ^ k ≤ 65536 := by
    have h1 : 256 ^ k ≤ 256 ^ 1 := Nat.pow_le_pow_right (by decide) (by omega)
    have h2 : (b + 1) * 256 ^ k ≤ 256 * 256 ^ 1 := Nat.mul_le_mul (by omega) h1
    have h3 : 256 * 256 ^ 1 = 65536 := by decide
    rw [h3, Nat.add_mul, Nat.one_mul] at h2
    exact h2
  have e : IntKind.u16.wrap ((b : Int) * 2 ^ (8 * k)) = ((b * 256 ^ k : Nat) : Int) := by
    have e1 : (b : Int) * 2 ^ (8 * k) = ((b * 256 ^ k : Nat) : Int) := by rw [← e2]; simp
    rw [e1, IntKind.wrap_u16]
    omega
  have hpos : 0 < 256 ^ k := Nat.pow_pos (by decide)
  rw [e, u16_or_nat r _ (by omega) (by omega)]
  have h := Nat.two_pow_add_eq_or_of_lt (i := 8 * k) (by rw [e2]; exact hr) b
  rw [e2, Nat.mul_comm] at h
  rw [Nat.or_comm, ← h, Nat.add_comm]
set_option maxRecDepth 100000 in
theorem or_at32 (k r b : Nat) (hk : k < 4) (hr : r < 256 ^ k) (hb : b < 256) : bits BinOp.or .u32 (r : Int) (IntKind.u32.wrap ((b : Int) * 2 ^ (8 * k))) = ((r + b * 256 ^ k : Nat) : Int) := by
  have e2 : (2 : Nat) ^ (8 * k) = 256 ^ k := by rw [Nat.pow_mul]
  have hp : b * 256 ^ k + 256 ^ k ≤ 4294967296 := by
    have h1 : 256 ^ k ≤ 256 ^ 3 := Nat.pow_le_pow_right (by decide) (by omega)
    have h2 : (b + 1) * 256 ^ k ≤ 256 * 256 ^ 3 := Nat.mul_le_mul (by omega) h1
    have h3 : 256 * 256 ^ 3 = 4294967296 := by decide
    rw [h3, Nat.add_mul, Nat.one_mul] at h2
    exact h2
  have e : IntKind.u32.wrap ((b : Int) * 2 ^ (8 * k)) = ((b * 256 ^ k : Nat) : Int) := by
    have e1 : (b : Int) * 2 ^ (8 * k) = ((b * 256 ^ k : Nat) : Int) := by rw [← e2]; simp
    rw [e1, IntKind.wrap_u32]
    omega
  have hpos : 0 < 256 ^ k := Nat.pow_pos (by decide)
  rw [e, u32_or_nat r _ (by omega) (by omega)]
  have h := Nat.two_pow_add_eq_or_of_lt (i := 8 * k) (by rw [e2]; exact hr) b
  rw [e2, Nat.mul_comm] at h
  rw [Nat.or_comm, ← h, Nat.add_comm]
set_option maxRecDepth 100000 in
theorem or_at64 (k r b : Nat) (hk : k < 8) (hr : r < 256 ^ k) (hb : b < 256) : bits BinOp.or .u64 (r : Int) (IntKind.u64.wrap ((b : Int) * 2 ^ (8 * k))) = ((r + b * 256 ^ k : Nat) : Int) := by
  have e2 : (2 : Nat) ^ (8 * k) = 256 ^ k := by rw [Nat.pow_mul]
  have hp : b * 256 ^ k + 256 ^ k ≤ 18446744073709551616 := by
    have h1 : 256 ^ k ≤ 256 ^ 7 := Nat.pow_le_pow_right (by decide) (by omega)
    have h2 : (b + 1) * 256 ^ k ≤ 256 * 256 ^ 7 := Nat.mul_le_mul (by omega) h1
    have h3 : 256 * 256 ^ 7 = 18446744073709551616 := by decide
    rw [h3, Nat.add_mul, Nat.one_mul] at h2
    exact h2
  have e : IntKind.u64.wrap ((b : Int) * 2 ^ (8 * k)) = ((b * 256 ^ k : Nat) : Int) := by
    have e1 : (b : Int) * 2 ^ (8 * k) = ((b * 256 ^ k : Nat) : Int) := by rw [← e2]; simp
    rw [e1, IntKind.wrap_u64]
    omega
  have hpos : 0 < 256 ^ k := Nat.pow_pos (by decide)
  rw [e, u64_or_nat r _ (by omega) (by omega)]
  have h := Nat.two_pow_add_eq_or_of_lt (i := 8 * k) (by rw [e2]; exact hr) b
  rw [e2, Nat.mul_comm] at h
  rw [Nat.or_comm, ← h, Nat.add_comm]
set_option maxRecDepth 100000 in
theorem readFix8_any (w : World) (S : Nat → Prop) (p : Option Nat) (ok : Bool) (l : List Nat) (h : Rd w S p ok l) :
    Calls Tryz.prog 99 #[ptr p] w fun e w' => e = .returned (.int .u8 ((valO ok (fixO l 1) 0 : Nat) : Int)) ∧ Got w S p ok l (fixO l 1) w' := by
  have HT := Lib.hid (take_any w S p ok l 1 (by omega) (by omega) h)
  clear h
  go_enter Tryz.func99, Tryz.ntmps99
  go_wp2_with (go_at_call 104; refine (size8 _).mono ?_; rintro e w' ⟨rfl, rfl⟩)
  refine HT.out.mono ?_
  rintro e w1 ⟨A, m, c, rfl, hr, hm, hd, hf⟩
  have hm8 : m ≤ 1 := by rw [← hr.len]; exact takeO_len ok l 1
  have HG := Lib.hid (Got.fix hd hf)
  have HV := Lib.hid (fixO_val ok l 1)
  obtain ⟨t, ht⟩ : ∃ t, t = valO ok (takeO l (1 : Nat)) [] := ⟨_, rfl⟩
  have hr' : RB w1 (fun b => S b ∧ some b ≠ p) A m t := by rw [ht]; exact hr
  have HRB := Lib.hid hr'
  have HTT := Lib.hid ht
  clear hr hr' hd hf ht
  go_wp2
  go_loop [5, 16] (fun y i => ∃ k r : Nat, k ≤ m ∧ i = .int .i64 (k : Int) ∧ r = Cd.unfix (t.take k) ∧ y = .int .u8 (r : Int)) (fun _ i => m - (intOf i).toNat)
  case atStart => exact ⟨0, 0, by omega, rfl, by simp [Cd.unfix], rfl⟩
  case round =>
    obtain ⟨k, r, hk, rfl, hr, rfl⟩ := hrel
    have HR := Lib.hid hr
    clear hr
    by_cases hlt : k < m
    · obtain ⟨ad, rfl, hx, hc⟩ := HRB.out.at_ hlt
      obtain ⟨b, hb⟩ : ∃ b, b = t.getD k 0 := ⟨_, rfl⟩
      rw [← hb] at hx hc
      have HB := Lib.hid hb
      clear hb
      go_wp2
      go_round
      case rel =>
        have hl := HRB.out.len
        have hrl : r < 256 ^ k := by rw [HR.out]; exact unfix_take_lt t k HRB.out.lt
        refine ⟨k + 1, r + b * 256 ^ k, by omega, by go_num, ?_, ?_⟩
        · rw [unfix_step t k (by omega), HR.out, HB.out]
        · rw [← IntKind.wrap_u8, or_at8 k r b (by omega) hrl hx]
      case measure => simp [intOf]; omega
    · obtain rfl : k = m := by omega
      go_wp2
      go_ret
      have hl := HRB.out.len
      rw [HV.out, ← HTT.out]
      have hr := HR.out
      rw [List.take_of_length_le (by omega)] at hr
      rw [← hr]
      exact ⟨rfl, HG.out⟩
set_option maxRecDepth 100000 in
theorem readFix16_any (w : World) (S : Nat → Prop) (p : Option Nat) (ok : Bool) (l : List Nat) (h : Rd w S p ok l) :
    Calls Tryz.prog 51 #[ptr p] w fun e w' => e = .returned (.int .u16 ((valO ok (fixO l 2) 0 : Nat) : Int)) ∧ Got w S p ok l (fixO l 2) w' := by
  have HT := Lib.hid (take_any w S p ok l 2 (by omega) (by omega) h)
  clear h
  go_enter Tryz.func51, Tryz.ntmps51
  go_wp2_with (go_at_call 98; refine (size16 _).mono ?_; rintro e w' ⟨rfl, rfl⟩)
  refine HT.out.mono ?_
  rintro e w1 ⟨A, m, c, rfl, hr, hm, hd, hf⟩
  have hm8 : m ≤ 2 := by rw [← hr.len]; exact takeO_len ok l 2
  have HG := Lib.hid (Got.fix hd hf)
  have HV := Lib.hid (fixO_val ok l 2)
  obtain ⟨t, ht⟩ : ∃ t, t = valO ok (takeO l (2 : Nat)) [] := ⟨_, rfl⟩
  have hr' : RB w1 (fun b => S b ∧ some b ≠ p) A m t := by rw [ht]; exact hr
  have HRB := Lib.hid hr'
  have HTT := Lib.hid ht
  clear hr hr' hd hf ht
  go_wp2
  go_loop [5, 16] (fun y i => ∃ k r : Nat, k ≤ m ∧ i = .int .i64 (k : Int) ∧ r = Cd.unfix (t.take k) ∧ y = .int .u16 (r : Int)) (fun _ i => m - (intOf i).toNat)
  case atStart => exact ⟨0, 0, by omega, rfl, by simp [Cd.unfix], rfl⟩
  case round =>
    obtain ⟨k, r, hk, rfl, hr, rfl⟩ := hrel
    have HR := Lib.hid hr
    clear hr
    by_cases hlt : k < m
    · obtain ⟨ad, rfl, hx, hc⟩ := HRB.out.at_ hlt
      obtain ⟨b, hb⟩ : ∃ b, b = t.getD k 0 := ⟨_, rfl⟩
      rw [← hb] at hx hc
      have HB := Lib.hid hb
      clear hb
      go_wp2
      go_round
      case rel =>
        have hl := HRB.out.len
        have hrl : r < 256 ^ k := by rw [HR.out]; exact unfix_take_lt t k HRB.out.lt
        refine ⟨k + 1, r + b * 256 ^ k, by omega, by go_num, ?_, ?_⟩
        · rw [unfix_step t k (by omega), HR.out, HB.out]
        · rw [or_at16 k r b (by omega) hrl hx]
      case measure => simp [intOf]; omega
    · obtain rfl : k = m := by omega
      go_wp2
      go_ret
      have hl := HRB.out.len
      rw [HV.out, ← HTT.out]
      have hr := HR.out
      rw [List.take_of_length_le (by omega)] at hr
      rw [← hr]
      exact ⟨rfl, HG.out⟩
end Go.Proofs.YtdhgbkibbileiaaGreat
