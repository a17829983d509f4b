/-
  THE WALK OF THE document's number.
-/
import Derived.Test.YtiilhnedflmgoaaWalkP
namespace Go.Proofs.Ytiilhnedflmgoaa
open Go.RowKit Go.Sort
attribute [local go_sem high] run_eqs

theorem num_bound {r d k : Nat} (hr : r < 128 ^ k) (hd : d < 128) (h : k < 9 ∨ (k = 9 ∧ d ≤ 1)) : d * 128 ^ k < 18446744073709551616 ∧ r + d * 128 ^ k < 18446744073709551616 := by
  rcases h with h | ⟨rfl, h⟩
  · have h8 : 128 ^ (k + 1) ≤ 128 ^ 9 := Nat.pow_le_pow_right (by omega) (by omega)
    have h1 : d * 128 ^ k ≤ 127 * 128 ^ k := Nat.mul_le_mul_right _ (by omega)
    rw [Nat.pow_succ] at h8
    have h9 : (128 : Nat) ^ 9 = 9223372036854775808 := by decide
    omega
  · have h9 : (128 : Nat) ^ 9 = 9223372036854775808 := by decide
    have h1 : d * 128 ^ 9 ≤ 1 * 128 ^ 9 := Nat.mul_le_mul_right _ h
    omega
theorem shl7 (d k : Nat) (h : d * 128 ^ k < 18446744073709551616) : IntKind.u64.wrap ((d : Int) * 2 ^ (7 * (k : Int)).toNat) = ((d * 128 ^ k : Nat) : Int) := by
  have e : (7 * (k : Int)).toNat = 7 * k := by omega
  have e2 : (2 : Int) ^ (7 * k) = ((128 ^ k : Nat) : Int) := by
    rw [Int.pow_mul]
    simp
  rw [e, e2, IntKind.wrap_u64]
  have : (d : Int) * ((128 ^ k : Nat) : Int) = ((d * 128 ^ k : Nat) : Int) := by simp
  rw [this]
  omega
theorem sb_getD (s : ByteArray) (j : Nat) (h : j < s.size) : (sb s).getD j 0 = s[j].toNat := by
  rw [List.getD_eq_getElem?_getD, sb_get s j h]
  rfl
set_option maxRecDepth 100000 in
set_option maxHeartbeats 4000000 in
theorem number_any (s : ByteArray) (hs : s.size ≤ 9223372036854775807) (w : World) : Calls Try.prog 64 #[.string s] w fun e w' => e = .returned (frontV (sb s)) ∧ w = w' := by
  go_enter Try.func64, Try.ntmps64
  go_wp2
  go_loopw [4, 5] (fun n0 i wr => ∃ k r : Nat, k ≤ s.size ∧ k ≤ 10 ∧ n0 = .int .u64 (r : Int) ∧ i = .int .i64 (k : Int) ∧ Hid ((∀ j, j < k → 128 ≤ (sb s).getD j 0) ∧ (k ≤ 9 → r < 128 ^ k ∧ r = Cd.val ((sb s).take k))) ∧ w = wr) (fun _ i _ => s.size - (intOf i).toNat)
  case atStart => exact ⟨0, 0, by omega, by omega, rfl, rfl, ⟨fun j h => by omega, fun _ => ⟨by simp, by simp [Cd.val]⟩⟩, rfl⟩
  case round =>
    obtain ⟨k, r, hk, hk10, rfl, rfl, HR, rfl⟩ := hrel
    by_cases hlt : k < s.size
    · by_cases h10 : k < 10
      · have hbv := sb_getD s k hlt
        have hby := s[k].toNat_lt
        obtain ⟨b, hb⟩ : ∃ b, b = s[k].toNat := ⟨_, rfl⟩
        rw [← hb] at hbv hby
        have HBV := Lib.hid hbv
        replace hb := hb.symm
        obtain ⟨d, hd⟩ : ∃ d, d = b % 128 := ⟨_, rfl⟩
        have HD := Lib.hid hd
        have hd1 : (b : Int) % 128 = (d : Int) := by omega
        have hwk : IntKind.i64.wrap (7 * (k : Int)) = 7 * (k : Int) := IntWalk.i64_in _ (by omega)
        have hkd : decide ((k : Int) < 10) = true := decide_eq_true (by omega)
        clear hbv hd
        by_cases h9 : k = 9 ∧ 1 < d
        · have hke : ((k : Int) == 9) = true := by rw [h9.1]; rfl
          have hdd : decide ((d : Int) > 1) = true := decide_eq_true (by omega)
          have HN : Hid (Cd.front (sb s) = none) := by
            have h0 := HR.out
            refine Cd.front_none ?_
            have h1 := Cd.lead_ge (sb s) k (by rw [sb_len]; omega) h0.1
            have h2 := HD.out
            by_cases hb8 : b < 128
            · have he := Cd.lead_eq (sb s) k (by rw [sb_len]; omega) h0.1 (by rw [HBV.out]; exact hb8)
              have := HBV.out
              rw [h9.1] at this he
              omega
            · have he := Cd.lead_ge (sb s) (k + 1) (by rw [sb_len]; omega) (fun j hj => by
                rcases Nat.lt_or_ge j k with h | h
                · exact h0.1 j h
                · obtain rfl : j = k := by omega
                  rw [HBV.out]; omega)
              omega
          clear h9
          go_wp2
          go_ret2
          exact ⟨congrArg _ (frontV_none HN.out), rfl⟩
        · have hk9 : k < 9 ∨ (k = 9 ∧ d ≤ 1) := by omega
          have hr := HR.out.2 (by omega)
          have hnb := num_bound (d := d) hr.1 (by have := HD.out; omega) hk9
          have hsh := shl7 d k hnb.1
          obtain ⟨f, hf⟩ : ∃ f, f = d * 128 ^ k := ⟨_, rfl⟩
          rw [← hf] at hsh hnb
          have hadd : IntKind.u64.wrap ((r : Int) + (f : Int)) = ((r + f : Nat) : Int) := by rw [IntKind.wrap_u64]; omega
          have HV : Hid (r + f = Cd.val ((sb s).take (k + 1))) := by
            show _ = _
            rw [val_take (sb s) k (by rw [sb_len]; omega), HBV.out, ← HD.out, ← hr.2, hf]
          obtain ⟨r2, hr2⟩ : ∃ r2, r2 = r + f := ⟨_, rfl⟩
          rw [← hr2] at hadd HV hnb
          have HK9 := Lib.hid hk9
          have hgo : (((k : Int) == 9) && decide ((d : Int) > 1)) = false := by
            rcases hk9 with h | ⟨h1, h2⟩
            · rw [show ((k : Int) == 9) = false from beq_false_of_ne (by omega)]; rfl
            · rw [show decide ((d : Int) > 1) = false from decide_eq_false (by omega), Bool.and_false]
          clear hf hr2 hr h9
          by_cases hb8 : b < 128
          · have hb8d : decide ((b : Int) < 128) = true := decide_eq_true (by omega)
            have HE : Hid (Cd.lead (sb s) = k) := Cd.lead_eq (sb s) k (by rw [sb_len]; omega) HR.out.1 (by rw [HBV.out]; exact hb8)
            by_cases hz : 0 < k ∧ b = 0
            · have hz1 : decide ((k : Int) > 0) = true := decide_eq_true (by omega)
              have hz2 : ((b : Int) == 0) = true := by rw [hz.2]; rfl
              have HN : Hid (Cd.front (sb s) = none) := by
                refine Cd.front_none ?_
                rw [HE.out]
                have := HBV.out
                omega
              have hkp : 0 < k := hz.1
              clear hz
              rcases hk9 with hk9 | ⟨hk9, hd9⟩
              · have hke : ((k : Int) == 9) = false := beq_false_of_ne (by omega)
                go_wp2
                go_ret2
                exact ⟨congrArg _ (frontV_none HN.out), rfl⟩
              · have hke : ((k : Int) == 9) = true := by rw [hk9]; rfl
                have hdd : decide ((d : Int) > 1) = false := decide_eq_false (by omega)
                clear hk9
                go_wp2
                go_ret2
                exact ⟨congrArg _ (frontV_none HN.out), rfl⟩
            · have HN : Hid (Cd.front (sb s) = some (r2, k + 1)) := by
                show _ = _
                have hv := HV.out
                have hbb := HBV.out
                have hdd := HD.out
                have hk9' := HK9.out
                have h2 : ∀ h : k = 9, (sb s).getD 9 0 ≤ 1 := fun h => by rw [← h, hbb]; omega
                rw [Cd.front_some (by rw [HE.out, sb_len]; exact hlt) (by rw [HE.out]; omega) (by rw [HE.out]; exact h2) (by rw [HE.out, hbb]; omega), HE.out, hv]
              have hz3 : (decide ((k : Int) > 0) && ((b : Int) == 0)) = false := by
                by_cases h0 : 0 < k
                · rw [show ((b : Int) == 0) = false from beq_false_of_ne (by omega), Bool.and_false]
                · rw [show decide ((k : Int) > 0) = false from decide_eq_false (by omega)]; rfl
              by_cases h0 : 0 < k
              · have hz1 : decide ((k : Int) > 0) = true := decide_eq_true (by omega)
                have hz2 : ((b : Int) == 0) = false := beq_false_of_ne (by omega)
                clear hz hz3
                rcases hk9 with hk9 | ⟨hk9, hd9⟩
                · have hke : ((k : Int) == 9) = false := beq_false_of_ne (by omega)
                  go_wp2
                  go_ret2
                  exact ⟨by rw [frontV_some HN.out]; simp, rfl⟩
                · have hke : ((k : Int) == 9) = true := by rw [hk9]; rfl
                  have hdd : decide ((d : Int) > 1) = false := decide_eq_false (by omega)
                  clear hk9
                  go_wp2
                  go_ret2
                  exact ⟨by rw [frontV_some HN.out]; simp, rfl⟩
              · have hz1 : decide ((k : Int) > 0) = false := decide_eq_false (by omega)
                have hke : ((k : Int) == 9) = false := beq_false_of_ne (by omega)
                clear hz hz3
                go_wp2
                go_ret2
                exact ⟨by rw [frontV_some HN.out]; simp, rfl⟩
          · have hb8d : decide ((b : Int) < 128) = false := decide_eq_false (by omega)
            have HNX : Hid ((∀ j, j < k + 1 → 128 ≤ (sb s).getD j 0) ∧ (k + 1 ≤ 9 → r2 < 128 ^ (k + 1) ∧ r2 = Cd.val ((sb s).take (k + 1)))) := by
              refine ⟨fun j hj => ?_, fun h => ⟨?_, HV.out⟩⟩
              · rcases Nat.lt_or_ge j k with h | h
                · exact HR.out.1 j h
                · obtain rfl : j = k := by omega
                  rw [HBV.out]; omega
              · rw [HV.out]; exact val_take_lt (sb s) (k + 1)
            rcases hk9 with hk9 | ⟨hk9, hd9⟩
            · have hke : ((k : Int) == 9) = false := beq_false_of_ne (by omega)
              go_wp2
              go_roundw
              case rel => exact ⟨k + 1, r2, by omega, by omega, by first | rfl | go_num, by go_num, HNX, by first | rfl | trivial⟩
              case measure => simp [intOf]; omega
            · have hke : ((k : Int) == 9) = true := by rw [hk9]; rfl
              have hdd : decide ((d : Int) > 1) = false := decide_eq_false (by omega)
              have hk11 : k + 1 ≤ 10 := by omega
              clear hk9
              go_wp2
              go_roundw
              case rel => exact ⟨k + 1, r2, by omega, by omega, by first | rfl | go_num, by go_num, HNX, by first | rfl | trivial⟩
              case measure => simp [intOf]; omega
      · have hkd : decide ((k : Int) < 10) = false := decide_eq_false (by omega)
        have HN : Hid (Cd.front (sb s) = none) := by
          refine Cd.front_none ?_
          have h1 := Cd.lead_ge (sb s) k (by rw [sb_len]; omega) HR.out.1
          omega
        go_wp2
        go_ret2
        exact ⟨congrArg _ (frontV_none HN.out), rfl⟩
    · have HN : Hid (Cd.front (sb s) = none) := by
        refine Cd.front_none ?_
        have h1 := Cd.lead_ge (sb s) k (by rw [sb_len]; omega) HR.out.1
        rw [sb_len]
        omega
      obtain rfl : k = s.size := by omega
      go_wp2
      go_ret2
      exact ⟨congrArg _ (frontV_none HN.out), rfl⟩
end Go.Proofs.Ytiilhnedflmgoaa
