/-
  THE WALK OF THE DOCUMENT's Front: the counted number at the front of bytes.
-/
import Derived.Test.YtdhgbkibbileiaaGreatWalkG
namespace Go.Proofs.YtdhgbkibbileiaaGreat
open Go.RowKit

set_option maxRecDepth 100000 in
theorem val_drop (L : List Nat) (j : Nat) (h : j < L.length) : Cd.val (L.drop j) = L.getD j 0 % 128 + 128 * Cd.val (L.drop (j + 1)) := by
  rw [List.drop_eq_getElem_cons h, Cd.val]
  simp [h]
set_option maxRecDepth 100000 in
theorem val_drop_le (L : List Nat) (j : Nat) : Cd.val (L.drop j) ≤ Cd.val L := by
  induction L generalizing j with
  | nil => simp [Cd.val]
  | cons b r ih =>
    match j with
    | 0 => exact Nat.le_refl _
    | j + 1 =>
      have := ih j
      simp only [List.drop_succ_cons, Cd.val]
      omega

set_option maxRecDepth 100000 in
set_option maxHeartbeats 1000000 in
theorem front_any (w : World) (T : Nat → Prop) (A : Option Addr) (n c : Nat) (l : List Nat) (hr : RB w T A n l) (hn : n ≤ 140737488351232) :
    Calls Tryz.prog 100 #[.slice A n c] w fun e w' => e = .returned (frontV l) ∧ w = w' := by
  have hll := Cd.lead_le l
  have hln := hr.len
  obtain ⟨q, hq⟩ : ∃ q, q = Cd.lead l := ⟨_, rfl⟩
  rw [← hq] at hll
  have hqn : q ≤ n := by omega
  have HQ := Lib.hid hq
  have HRB := Lib.hid hr
  clear hr hq hll hln
  go_enter Tryz.func100, Tryz.ntmps100
  go_wp2
  go_loop [4] (fun i => ∃ k : Nat, k ≤ q ∧ i = .int .i64 (k : Int)) (fun i => q - (intOf i).toNat)
  case atStart => exact ⟨0, by omega, rfl⟩
  case round =>
    obtain ⟨k, hk, rfl⟩ := hrel
    by_cases hlt : k < q
    · obtain ⟨ad, rfl, hx, hc⟩ := HRB.out.at_ (show k < n by omega)
      obtain ⟨b, hb⟩ : ∃ b, b = l.getD k 0 := ⟨_, rfl⟩
      have hb2 : 128 ≤ b := by rw [hb]; exact Cd.lead_at l k (by rw [← HQ.out]; exact hlt)
      rw [← hb] at hx hc
      clear hb
      have hkn : k < n := by omega
      go_wp2
      go_round
      case rel => exact ⟨k + 1, by omega, by go_num⟩
      case measure => simp [intOf]; omega
    · have hkq : q ≤ k := by omega
      by_cases hkn : k < n
      · obtain ⟨ad, rfl, hx, hc⟩ := HRB.out.at_ hkn
        obtain ⟨b, hb⟩ : ∃ b, b = l.getD k 0 := ⟨_, rfl⟩
        have hb2 : b < 128 := by
          rw [hb]
          have hln := HRB.out.len
          have e : k = Cd.lead l := by rw [← HQ.out]; omega
          rw [e]
          exact Cd.lead_end l (by rw [← HQ.out]; omega)
        rw [← hb] at hx hc
        have HB := Lib.hid hb
        clear hb
        by_cases hbad : 9 < k ∨ (k = 9 ∧ 1 < b) ∨ (0 < k ∧ b = 0)
        · have hnone : Cd.front l = none := by
            have hb := HB.out
            have e : k = Cd.lead l := by rw [← HQ.out]; omega
            refine Cd.front_none ?_
            rcases hbad with h | ⟨h, h'⟩ | ⟨h, h'⟩
            · omega
            · exact Or.inr (Or.inr (Or.inl ⟨by omega, by rw [← h, ← hb]; exact h'⟩))
            · exact Or.inr (Or.inr (Or.inr ⟨by omega, by rw [← e, ← hb]; exact h'⟩))
          have HN := Lib.hid (frontV_none hnone)
          clear hnone
          by_cases h9 : 9 < k
          · clear hbad
            go_wp2
            go_ret2
            exact ⟨congrArg _ HN.out, rfl⟩
          · by_cases h99 : 9 ≤ k
            · have hke : ((k : Int) == 9) = true := by simp; omega
              by_cases hb1 : 1 < b
              · clear hbad
                go_wp2
                go_ret2
                exact ⟨congrArg _ HN.out, rfl⟩
              · have hbe : ((b : Int) == 0) = true := by simp; omega
                have hk0 : 0 < k := by omega
                clear hbad
                go_wp2
                go_ret2
                exact ⟨congrArg _ HN.out, rfl⟩
            · have hke : ((k : Int) == 9) = false := by simp; omega
              have hbe : ((b : Int) == 0) = true := by simp; omega
              have hk0 : 0 < k := by omega
              clear hbad
              go_wp2
              go_ret2
              exact ⟨congrArg _ HN.out, rfl⟩
        · have hk9 : k ≤ 9 := by omega
          have hb9 : k = 9 → b ≤ 1 := by omega
          have hb0 : 0 < k → 0 < b := by omega
          have hf : Cd.front l = some (Cd.val (l.take (k + 1)), k + 1) := by
            have hb := HB.out
            have hln := HRB.out.len
            have e : k = Cd.lead l := by rw [← HQ.out]; omega
            rw [Cd.front_some (by omega) (by omega) (by intro h; rw [← h, ← e, ← hb]; exact hb9 (by omega)) (by intro h; rw [← e, ← hb]; have := hb0 (by omega); omega), ← e]
          have HF := Lib.hid hf
          have HLT := Lib.hid (Cd.front_lt hf)
          clear hbad hf
          have hways : (((k : Int) == 9) = true ∧ b ≤ 1 ∧ 0 < k ∧ ((b : Int) == 0) = false) ∨ (((k : Int) == 9) = false ∧ 0 < k ∧ ((b : Int) == 0) = false) ∨ (((k : Int) == 9) = false ∧ k ≤ 0) := by
            rcases Nat.lt_or_ge k 1 with h1 | h1
            · exact Or.inr (Or.inr ⟨by simp; omega, by omega⟩)
            · have := hb0 (by omega)
              rcases Nat.lt_or_ge k 9 with h2 | h2
              · exact Or.inr (Or.inl ⟨by simp; omega, by omega, by simp; omega⟩)
              · exact Or.inl ⟨by simp; omega, hb9 (by omega), by omega, by simp; omega⟩
          clear hb9 hb0
          rcases hways with ⟨hke, hb1, hk0, hbe⟩ | ⟨hke, hk0, hbe⟩ | ⟨hke, hk0⟩
          all_goals
            go_wp2
            go_loop [5, 6] (fun y i0 => ∃ (i : Int) (r : Nat), -1 ≤ i ∧ i ≤ k ∧ i0 = .int .i64 i ∧ r = Cd.val ((l.take (k + 1)).drop (i + 1).toNat) ∧ y = .int .u64 (r : Int)) (fun _ i => (intOf i + 1).toNat)
            case atStart =>
              refine ⟨k, 0, by omega, by omega, rfl, ?_, rfl⟩
              rw [List.drop_of_length_le (by simp; omega)]
              rfl
            case round =>
              obtain ⟨i, r, hi1, hi2, rfl, hr, rfl⟩ := hrel
              by_cases hi : 0 ≤ i
              · obtain ⟨j, rfl⟩ := Int.eq_ofNat_of_zero_le hi
                have hjk : j ≤ k := by omega
                obtain ⟨_, e, hx2, hc2⟩ := HRB.out.at_ (show j < n by omega)
                cases e
                obtain ⟨z, hz⟩ : ∃ z, z = l.getD j 0 := ⟨_, rfl⟩
                rw [← hz] at hx2 hc2
                have hv := val_drop (l.take (k + 1)) j (by have := HRB.out.len; simp; omega)
                rw [Cd.getD_take _ _ _ (by omega), ← hz] at hv
                have hle := val_drop_le (l.take (k + 1)) j
                have hlt2 := HLT.out
                have hjn : ((j : Int) + 1).toNat = j + 1 := by omega
                rw [hjn] at hr
                rw [← hr] at hv
                have hbd : z % 128 + 128 * r < 18446744073709551616 := by omega
                have HV := Lib.hid hv
                clear hz hv hle hlt2 hjn hr
                go_wp2
                go_round
                case rel =>
                  refine ⟨(j : Int) - 1, z % 128 + 128 * r, by omega, by omega, by first | rfl | go_num, ?_, ?_⟩
                  · rw [show ((j : Int) - 1 + 1).toNat = j by omega, HV.out]
                  · exact congrArg _ (by omega)
                case measure => simp [intOf]
              · obtain rfl : i = -1 := by omega
                have HR := Lib.hid hr
                clear hr
                go_wp2
                go_ret2
                rw [frontV_some HF.out]
                have hr := HR.out
                simp only [Int.reduceNeg, Int.reduceAdd, Int.toNat_zero, List.drop_zero] at hr
                rw [hr]
                exact ⟨rfl, rfl⟩
      · obtain rfl : k = n := by omega
        have hnone : Cd.front l = none := by
          have hln := HRB.out.len
          exact Cd.front_none (Or.inl (by rw [← HQ.out]; omega))
        have HN := Lib.hid (frontV_none hnone)
        clear hnone
        go_wp2
        go_ret2
        exact ⟨congrArg _ HN.out, rfl⟩
end Go.Proofs.YtdhgbkibbileiaaGreat
