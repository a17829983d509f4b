/-
  THE WALKS OF THE SUMS (stage 1's).
-/
import Derived.Test.YtajmpoanmdgmpaaPWords
import Derived.Test.YtajmpoanmdgmpaaCrc
namespace Go.Proofs.Ytajmpoanmdgmpaa
open Go.RowKit

/-! ### Numbers -/
set_option maxRecDepth 100000 in
theorem and1 (r : Nat) (hr : r < 4294967296) : bits .and .u32 (r : Int) 1 = ((r % 2 : Nat) : Int) := by
  have h := u32_and_nat r 1 hr (by decide)
  rw [Nat.and_one_is_mod] at h
  exact h
set_option maxRecDepth 100000 in
theorem odd_yes {r : Nat} (hr : r < 4294967296) (h : (bits .and .u32 (r : Int) 1 == 1) = true) : r % 2 = 1 := by
  rw [and1 r hr] at h
  simp at h
  omega
set_option maxRecDepth 100000 in
theorem odd_no {r : Nat} (hr : r < 4294967296) (h : (bits .and .u32 (r : Int) 1 == 1) = false) : ¬ r % 2 = 1 := by
  rw [and1 r hr] at h
  simp at h
  omega
set_option maxRecDepth 100000 in
theorem half (r : Nat) : (r : Int) / 2 = ((r / 2 : Nat) : Int) := by omega
set_option maxRecDepth 100000 in
theorem xor_nat (a b : Nat) (ha : a < 4294967296) (hb : b < 4294967296) : bits .xor .u32 (a : Int) (b : Int) = ((a ^^^ b : Nat) : Int) := u32_xor_nat a b ha hb
set_option maxRecDepth 100000 in
theorem stp_yes {r : Nat} (hr : r < 4294967296) (h : r % 2 = 1) : bits .xor .u32 ((r : Int) / 2) 2197175160 = ((Crc.stp r : Nat) : Int) := by
  have e := xor_nat (r / 2) 2197175160 (by omega) (by decide)
  rw [half, Crc.stp, if_pos h]
  exact e
set_option maxRecDepth 100000 in
theorem stp_no {r : Nat} (hr : r < 4294967296) (h : ¬ r % 2 = 1) : bits .xor .u32 ((r : Int) / 2) 0 = ((Crc.stp r : Nat) : Int) := by
  have e := xor_nat (r / 2) 0 (by omega) (by decide)
  rw [half, Crc.stp, if_neg h]
  exact e

/-! ### Bytes in memory -/



set_option maxRecDepth 100000 in
theorem eight_any (r : Nat) (w : World) (hr : r < 4294967296) :
    Calls Try.prog 93 #[.int .u32 r] w fun e w' => e = .returned (.int .u32 (Crc.stpN 8 r)) ∧ w = w' := by
  go_enter Try.func93, Try.ntmps93
  go_wp2
  go_loop [0, 4] (fun t i => ∃ k r' : Nat, k ≤ 8 ∧ i = .int .i64 k ∧ r' < 4294967296 ∧ Crc.stpN (8 - k) r' = Crc.stpN 8 r ∧ t = .int .u32 r') (fun _ i => 8 - (intOf i).toNat)
  case atStart => exact ⟨0, r, by omega, rfl, hr, rfl, rfl⟩
  case round =>
    obtain ⟨k, r', hk, rfl, hr', he, rfl⟩ := hrel
    have He : Hid (Crc.stpN (8 - k) r' = Crc.stpN 8 r) := he
    clear he
    go_wp2
    · have hlt : (k : Int) < 8 := by assumption
      have hb : (bits BinOp.and IntKind.u32 (r' : Int) 1 == 1) = true := by assumption
      have ho := odd_yes hr' hb
      go_round
      case rel => exact ⟨k + 1, Crc.stp r', by omega, by go_num, Crc.stp_lt hr', by have e : 8 - k = 8 - (k + 1) + 1 := by omega
                                                                                    have h := He.out; rw [e] at h; exact h, by rw [stp_yes hr' ho]⟩
      case measure => simp [intOf]; omega
    · have hlt : (k : Int) < 8 := by assumption
      have hb : (bits BinOp.and IntKind.u32 (r' : Int) 1 == 1) = false := by assumption
      have ho := odd_no hr' hb
      go_round
      case rel => exact ⟨k + 1, Crc.stp r', by omega, by go_num, Crc.stp_lt hr', by have e : 8 - k = 8 - (k + 1) + 1 := by omega
                                                                                    have h := He.out; rw [e] at h; exact h, by rw [stp_no hr' ho]⟩
      case measure => simp [intOf]; omega
    · have hge : (8 : Int) ≤ k := by assumption
      have hz : 8 - k = 0 := by omega
      have h := He.out
      rw [hz] at h
      go_ret
      exact ⟨by rw [← h]; rfl, rfl⟩

set_option maxRecDepth 100000 in
theorem inv_nat (s : Nat) (hs : s < 4294967296) : bits BinOp.xor IntKind.u32 IntKind.u32.max (s : Int) = ((s ^^^ 4294967295 : Nat) : Int) := by
  rw [Nat.xor_comm]
  exact xor_nat 4294967295 s (by decide) hs

set_option maxRecDepth 100000 in
theorem smore_any (s : Nat) (A : Option Addr) (n c : Nat) (l : List Nat) (w : World) (hs : s < 4294967296) (hn : n ≤ maxLen) (h : RB w All A n l) :
    Calls Try.prog 72 #[.int .u32 s, .slice A n c] w fun e w' => e = .returned (.int .u32 (Crc.more s l)) ∧ w = w' := by
  unfold maxLen at hn
  have hmax : s ^^^ 4294967295 < 4294967296 := Crc.xor_lt hs (by decide)
  have e0 := inv_nat s hs
  have HL := Lib.hid h.len
  have HB := Lib.hid h
  clear h
  go_enter Try.func72, Try.ntmps72
  go_wp2
  go_loop [5, 12] (fun t i => ∃ k r' : Nat, k ≤ n ∧ i = .int .i64 k ∧ r' < 4294967296 ∧ r' = Crc.crc (s ^^^ 4294967295) (l.take k) ∧ t = .int .u32 r') (fun _ i => n - (intOf i).toNat)
  case atStart => exact ⟨0, s ^^^ 4294967295, by omega, rfl, hmax, by simp [Crc.crc], by first | rfl | (rw [e0])⟩
  case round =>
    clear e0
    obtain ⟨k, r', hk, rfl, hr', he, rfl⟩ := hrel
    have He := Lib.hid he
    clear he
    by_cases hlt : k < n
    · obtain ⟨ad, rfl, hx, hc⟩ := HB.out.at_ hlt
      obtain ⟨x, hxe⟩ : ∃ x, x = l.getD k 0 := ⟨_, rfl⟩
      rw [← hxe] at hx hc
      have Hx := Lib.hid hxe
      clear hxe
      have hx0 := xor_nat r' x hr' (by omega)
      have hmod : (x : Int) % 4294967296 = x := by omega
      have hlt2 := Crc.xor_lt hr' (show x < 4294967296 by omega)
      go_wp2_with (go_at_call 93; refine (eight_any (r' ^^^ x) _ hlt2).mono ?_; rintro e w' ⟨rfl, rfl⟩)
      go_round
      case rel =>
        refine ⟨k + 1, Crc.byt r' x, by omega, by go_num, Crc.byt_lt hr' hx, ?_, rfl⟩
        have hl := HL.out
        rw [He.out, Hx.out]
        have e1 : l.take (k + 1) = l.take k ++ [l.getD k 0] := by
          rw [List.take_succ_eq_append_getElem (by omega)]
          simp [show k < l.length by omega]
        rw [e1, Crc.crc_snoc]
      case measure => simp [intOf]; omega
    · have e1 := inv_nat r' hr'
      go_wp2
      go_ret
      have hl := HL.out
      have hk2 : l.take k = l := List.take_of_length_le (by omega)
      refine ⟨?_, rfl⟩
      rw [He.out, hk2]
      rfl

set_option maxRecDepth 100000 in
theorem sof_any (A : Option Addr) (n c : Nat) (l : List Nat) (w : World) (hn : n ≤ maxLen) (h : RB w All A n l) :
    Calls Try.prog 46 #[.slice A n c] w fun e w' => e = .returned (.int .u32 (Crc.more 0 l)) ∧ w = w' := by
  have HB := Lib.hid h
  clear h
  go_enter Try.func46, Try.ntmps46
  go_wp2_with (go_at_call 72; refine (smore_any 0 A n c l _ (by decide) hn HB.out).mono ?_; rintro e w' ⟨rfl, rfl⟩)
  go_ret
  exact ⟨rfl, rfl⟩

set_option maxRecDepth 100000 in
theorem xor_max (s : Nat) (hs : s < 4294967296) : bits BinOp.xor IntKind.u32 (s : Int) 4294967295 = ((s ^^^ 4294967295 : Nat) : Int) :=
  xor_nat s 4294967295 hs (by decide)

set_option maxRecDepth 100000 in
theorem rmore_any (s : Nat) (A : Option Addr) (n c : Nat) (l : List Nat) (w : World) (hs : s < 4294967296) (hn : n ≤ maxLen) (h : RB w All A n l) :
    Calls Try.prog 74 #[.int .u32 s, .slice A n c] w fun e w' => e = .returned (.int .u32 (Crc.more s l)) ∧ w = w' := by
  unfold maxLen at hn
  have hmax : s ^^^ 4294967295 < 4294967296 := Crc.xor_lt hs (by decide)
  have e0 := xor_max s hs
  have HL := Lib.hid h.len
  have HB := Lib.hid h
  clear h
  go_enter Try.func74, Try.ntmps74
  go_wp2
  go_loop [5, 6] (fun t i => ∃ k r' : Nat, k ≤ n ∧ i = .int .i64 k ∧ r' < 4294967296 ∧ r' = Crc.crc (s ^^^ 4294967295) (l.take k) ∧ t = .int .u32 r') (fun _ i => n - (intOf i).toNat)
  case atStart => exact ⟨0, s ^^^ 4294967295, by omega, rfl, hmax, by simp [Crc.crc], by first | rfl | (rw [e0])⟩
  case round =>
    clear e0
    obtain ⟨k, r', hk, rfl, hr', he, rfl⟩ := hrel
    have He := Lib.hid he
    clear he
    by_cases hlt : k < n
    · obtain ⟨ad, rfl, hx, hc⟩ := HB.out.at_ hlt
      obtain ⟨x, hxe⟩ : ∃ x, x = l.getD k 0 := ⟨_, rfl⟩
      rw [← hxe] at hx hc
      have Hx := Lib.hid hxe
      clear hxe
      have hx0 := xor_nat r' x hr' (by omega)
      have hmod : (x : Int) % 4294967296 = x := by omega
      have hlt2 := Crc.xor_lt hr' (show x < 4294967296 by omega)
      go_wp2
      clear hx0 hmod
      obtain ⟨r0, h0⟩ : ∃ r0, r0 = r' ^^^ x := ⟨_, rfl⟩
      rw [← h0] at hlt2
      rw [← h0]
      have H0 := Lib.hid h0
      clear h0
      go_loop [5, 7] (fun t i => ∃ j r2 : Nat, j ≤ 8 ∧ i = .int .i64 j ∧ r2 < 4294967296 ∧ Crc.stpN (8 - j) r2 = Crc.stpN 8 r0 ∧ t = .int .u32 r2) (fun _ i => 8 - (intOf i).toNat)
      case atStart => exact ⟨0, r0, by omega, rfl, hlt2, rfl, rfl⟩
      case round =>
        obtain ⟨j, r2, hj, rfl, hr2, he, rfl⟩ := hrel
        have He2 := Lib.hid he
        clear he
        go_wp2
        · have hlt3 : (j : Int) < 8 := by assumption
          have hb : ((r2 : Int) % 2 == 1) = true := by assumption
          have ho : r2 % 2 = 1 := by simp at hb; omega
          go_round
          case rel => exact ⟨j + 1, Crc.stp r2, by omega, by go_num, Crc.stp_lt hr2, by have e : 8 - j = 8 - (j + 1) + 1 := by omega
                                                                                        have h := He2.out; rw [e] at h; exact h, by rw [stp_yes hr2 ho]⟩
          case measure => simp [intOf]; omega
        · have hlt3 : (j : Int) < 8 := by assumption
          have hb : ((r2 : Int) % 2 == 1) = false := by assumption
          have ho : ¬ r2 % 2 = 1 := by simp at hb; omega
          have e2 : Crc.stp r2 = r2 / 2 := by unfold Crc.stp; rw [if_neg ho, Nat.xor_zero]
          go_round
          case rel => exact ⟨j + 1, Crc.stp r2, by omega, by go_num, Crc.stp_lt hr2, by have e : 8 - j = 8 - (j + 1) + 1 := by omega
                                                                                        have h := He2.out; rw [e] at h; exact h, by rw [half, e2]⟩
          case measure => simp [intOf]; omega
        · have hge : (8 : Int) ≤ j := by assumption
          have hz : 8 - j = 0 := by omega
          have h := He2.out
          rw [hz, H0.out] at h
          have hl := HL.out
          have e1 : l.take (k + 1) = l.take k ++ [l.getD k 0] := by
            rw [List.take_succ_eq_append_getElem (by omega)]
            simp [show k < l.length by omega]
          have e3 : r2 = Crc.crc (s ^^^ 4294967295) (l.take (k + 1)) := by
            rw [e1, Crc.crc_snoc, ← He.out, ← Hx.out]
            exact h
          have E3 := Lib.hid e3
          clear e3 h e1 hl hz
          go_round
          case rel => exact ⟨k + 1, r2, by omega, by go_num, hr2, E3.out, rfl⟩
          case measure => simp [intOf]; omega
    · have e1 := xor_max r' hr'
      go_wp2
      go_ret
      have hl := HL.out
      have hk2 : l.take k = l := List.take_of_length_le (by omega)
      refine ⟨?_, rfl⟩
      rw [He.out, hk2]
      rfl

set_option maxRecDepth 100000 in
theorem rof_any (A : Option Addr) (n c : Nat) (l : List Nat) (w : World) (hn : n ≤ maxLen) (h : RB w All A n l) :
    Calls Try.prog 50 #[.slice A n c] w fun e w' => e = .returned (.int .u32 (Crc.more 0 l)) ∧ w = w' := by
  have HB := Lib.hid h
  clear h
  go_enter Try.func50, Try.ntmps50
  go_wp2_with (go_at_call 74; refine (rmore_any 0 A n c l _ (by decide) hn HB.out).mono ?_; rintro e w' ⟨rfl, rfl⟩)
  go_ret
  exact ⟨rfl, rfl⟩

end Go.Proofs.Ytajmpoanmdgmpaa
