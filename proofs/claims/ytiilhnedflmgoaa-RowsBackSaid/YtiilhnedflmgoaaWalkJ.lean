/-
  THE WALKS OF markBytes, markOf, isMarked, marksBeyond.
-/
import Derived.Test.YtiilhnedflmgoaaWalkI
import Derived.Laws.BitsLemmas
namespace Go.Proofs.Ytiilhnedflmgoaa
open Go.RowKit Go.Sort

set_option maxRecDepth 100000 in
theorem markBytes_any (n : Nat) (hn : n ≤ 9223372036854775000) (w : World) : Calls Try.prog 55 #[.int .i64 (n : Int)] w fun e w' => e = .returned (.int .i64 ((mB n : Nat) : Int)) ∧ w = w' := by
  go_enter Try.func55, Try.ntmps55
  go_wp2
  go_ret
  refine ⟨?_, rfl⟩
  show Ending.returned (.int .i64 (((n : Int) + 8 - 1) / 8)) = _
  congr 2
  unfold mB
  omega
theorem pow8 (n : Nat) : 2 ^ (n % 8) < 256 := Nat.lt_of_lt_of_le (Nat.pow_lt_pow_right (n := 8) (by omega) (by omega)) (Nat.le_refl _)
set_option maxRecDepth 100000 in
theorem markOf_any (n : Nat) (w : World) : Calls Try.prog 56 #[.int .i64 (n : Int)] w fun e w' => e = .returned (.int .u8 ((2 ^ (n % 8) : Nat) : Int)) ∧ w = w' := by
  have h := pow8 n
  go_enter Try.func56, Try.ntmps56
  go_wp2
  go_ret
  refine ⟨?_, rfl⟩
  show Ending.returned (.int .u8 (2 ^ (n % 8) % 256)) = _
  have e : ((2 : Int) ^ (n % 8)) = ((2 ^ (n % 8) : Nat) : Int) := by simp
  rw [e]
  generalize 2 ^ (n % 8) = y at *
  congr 2
  omega
theorem and_u8 (a b : Nat) (ha : a < 256) (hb : b < 256) : bits .and .u8 (a : Int) (b : Int) = ((a &&& b : Nat) : Int) :=
  (bits_nat .u8 8 (by decide) wraps_u8 a b ha hb).1
theorem or_u8 (a b : Nat) (ha : a < 256) (hb : b < 256) : bits .or .u8 (a : Int) (b : Int) = ((a ||| b : Nat) : Int) :=
  (bits_nat .u8 8 (by decide) wraps_u8 a b ha hb).2
theorem and_bit (x k : Nat) : (x &&& 2 ^ k = 0) ↔ x.testBit k = false := by
  constructor
  · intro h
    have := congrArg (fun y => y.testBit k) h
    simpa [Nat.testBit_and, Nat.testBit_two_pow] using this
  · intro h
    apply Nat.eq_of_testBit_eq
    intro i
    rw [Nat.testBit_and, Nat.testBit_two_pow, Nat.zero_testBit]
    by_cases e : k = i
    · subst e; simp [h]
    · simp [e]
theorem quo8 (p : Nat) : (p : Int).tdiv 8 = ((p / 8 : Nat) : Int) := by
  rw [Int.tdiv_eq_ediv_of_nonneg (by omega)]
  omega
set_option maxRecDepth 100000 in
set_option maxHeartbeats 1000000 in
theorem isMarked_any (T : Nat → Prop) (A : Option Addr) (m c : Nat) (l : List Nat) (p : Nat) (w : World) (h : RB w T A m l) (hp : p < 8 * m) (hm : m ≤ 1099511627776) :
    Calls Try.prog 62 #[.slice A m c, .int .i64 (p : Int)] w fun e w' => e = .returned (.bool (bitAt l p)) ∧ Below w.heap.size w w' := by
  obtain ⟨q, hq⟩ : ∃ q, q = p / 8 := ⟨_, rfl⟩
  obtain ⟨ad, rfl, hx, hc⟩ := h.at_ (k := q) (by omega)
  have hgrown := fun d os => cell_regrown hc d os
  have hMO := Lib.hid (fun W => bel_of (markOf_any p W))
  have hb : bitAt l p = (l.getD q 0).testBit (p % 8) := by unfold bitAt; rw [hq]
  rw [hb]
  generalize l.getD q 0 = x at *
  have hy := pow8 p
  have hab := and_bit x (p % 8)
  have h1 : (p : Int) / 8 = (q : Int) := by omega
  have h2 : (p : Int).tdiv 8 = (q : Int) := by rw [quo8, hq]
  have hqm : q < m := by omega
  generalize 2 ^ (p % 8) = y at *
  have hand := and_u8 x y hx hy
  generalize x &&& y = z at *
  clear h hb hq hp hx hy
  cases hbt : x.testBit (p % 8) with
  | true =>
    have hz : z ≠ 0 := by rw [hbt] at hab; simpa using hab
    have hz1 : ((z : Int) == 0) = false := beq_false_of_ne (by omega)
    have hz2 : ((z : Int) != 0) = true := bne_iff_ne.2 (by omega)
    clear hab hz
    go_enter Try.func62, Try.ntmps62
    go_wp2_with fail
    refine wp_region_quiet_below (by kernel_rfl) (by kernel_rfl) ?_
    repeat (go_big_quiet_step ((go_at_call 56; exact Calls.regrown_of (hMO.out _))))
    refine wpQuiet_nil ?_
    intro _ hw'
    obtain ⟨p, rfl⟩ := hw'
    go_wp2
    go_ret
    exact ⟨rfl, below_regrown _ _ _⟩
  | false =>
    have hz : z = 0 := by rw [hbt] at hab; simpa using hab
    subst hz
    clear hab
    go_enter Try.func62, Try.ntmps62
    go_wp2_with fail
    refine wp_region_quiet_below (by kernel_rfl) (by kernel_rfl) ?_
    repeat (go_big_quiet_step ((go_at_call 56; exact Calls.regrown_of (hMO.out _))))
    refine wpQuiet_nil ?_
    intro _ hw'
    obtain ⟨p, rfl⟩ := hw'
    go_wp2
    go_ret
    exact ⟨rfl, below_regrown _ _ _⟩
theorem RB.belowW {w w' : World} {T : Nat → Prop} {A : Option Addr} {n : Nat} {l : List Nat} (h : RB w T A n l) (hb : Below w.heap.size w w') : RB w' (fun _ => True) A n l := by
  obtain ⟨h1, h2, h3⟩ := h
  refine ⟨h1, h2, fun hn => ?_⟩
  obtain ⟨ad, e, hlt, _, hc⟩ := h3 hn
  exact ⟨ad, e, Nat.lt_of_lt_of_le hlt hb.size, trivial, fun j hj => (hb.cell (p := ad.add j) (by rw [block_of_add]; exact hlt)).trans (hc j hj)⟩
set_option maxRecDepth 100000 in
set_option maxHeartbeats 1000000 in
theorem marksBeyond_any (T : Nat → Prop) (A : Option Addr) (m c : Nat) (l : List Nat) (n : Nat) (w : World) (h : RB w T A m l) (hm : m ≤ 1099511627776) :
    Calls Try.prog 61 #[.slice A m c, .int .i64 (n : Int)] w fun e w' => e = .returned (.bool (beyond l n)) ∧ Below w.heap.size w w' := by
  have hl := Lib.hid h.len
  have H := Lib.hid (fun (W : World) (hb : Below w.heap.size w W) => h.belowW hb)
  have h8 : IntKind.i64.wrap (8 * (m : Int)) = ((8 * m : Nat) : Int) := by rw [IntWalk.i64_in _ (by omega)]; omega
  clear h
  go_enter Try.func61, Try.ntmps61
  go_wp2
  go_loopw [5] (fun i wr => ∃ k : Nat, n ≤ k ∧ (k ≤ 8 * m ∨ k = n) ∧ i = .int .i64 (k : Int) ∧ (∀ j, n ≤ j → j < k → bitAt l j = false) ∧ Below w.heap.size w wr) (fun i _ => 8 * m - (intOf i).toNat)
  case atStart => exact ⟨n, by omega, by omega, rfl, fun j h1 h2 => by omega, Below.refl _ _⟩
  case round =>
    obtain ⟨k, hnk, hk, rfl, hall, hbel⟩ := hrel
    have HA := Lib.hid hall
    have HB := Lib.hid hbel
    clear hall hbel
    by_cases hlt : k < 8 * m
    · have hd : decide ((k : Int) < ((8 * m : Nat) : Int)) = true := decide_eq_true (by omega)
      have hd2 : decide ((k : Int) < 8 * (m : Int)) = true := decide_eq_true (by omega)
      have HC := Lib.hid (isMarked_any _ A m c l k wr (H.out _ HB.out) hlt hm)
      cases hb : bitAt l k with
      | true =>
        simp only [hb] at HC
        have HN : Hid (beyond l n = true) := (beyond_iff l n).2 ⟨k, hnk, by rw [hl.out]; exact hlt, hb⟩
        clear hb
        go_wp2_with (go_at_call 62; refine HC.out.mono ?_; rintro e w1 ⟨rfl, hb⟩; have HB2 := Lib.hid (below_trans HB.out hb); clear hb)
        go_ret
        exact ⟨by rw [HN.out]; rfl, HB2.out⟩
      | false =>
        simp only [hb] at HC
        have HN : Hid (∀ j, n ≤ j → j < k + 1 → bitAt l j = false) := fun j h1 h2 => by
          rcases Nat.lt_or_ge j k with h | h
          · exact HA.out j h1 h
          · obtain rfl : j = k := by omega
            exact hb
        clear hb
        go_wp2_with (go_at_call 62; refine HC.out.mono ?_; rintro e w1 ⟨rfl, hb⟩; have HB2 := Lib.hid (below_trans HB.out hb); clear hb)
        go_roundw
        case rel => exact ⟨k + 1, by omega, by omega, by go_num, HN.out, HB2.out⟩
        case measure => simp [intOf]; omega
    · have hd : decide ((k : Int) < ((8 * m : Nat) : Int)) = false := decide_eq_false (by omega)
      have hd2 : decide ((k : Int) < 8 * (m : Int)) = false := decide_eq_false (by omega)
      have HN : Hid (beyond l n = false) := by
        show _ = _
        rw [Bool.eq_false_iff]
        intro e
        obtain ⟨i, h1, h2, h3⟩ := (beyond_iff l n).1 e
        rw [hl.out] at h2
        rw [HA.out i h1 (by omega)] at h3
        cases h3
      go_wp2
      go_ret
      exact ⟨by rw [HN.out]; rfl, HB.out⟩
end Go.Proofs.Ytiilhnedflmgoaa
