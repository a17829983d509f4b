/-
  THE WALK OF SumBursts: where bits of a sealed text are turned, all within 32 side by side, it is opened no more.
-/
import Derived.Test.YtdmfkmaelebogaaWalkF
import Derived.Test.YtdmfkmaelebogaaFlips
import Derived.BigRegion
import Derived.RegionTactic
namespace Go.Proofs.Ytdmfkmaelebogaa.sumBursts
open Go.RowKit

theorem bit_yes {d k : Nat} (hd : d < 4294967296) (h : (bits BinOp.and IntKind.u32 ((d : Int) / 2 ^ k) 1 == 1) = true) : d.testBit k = true := by
  have e : ((d : Int) / 2 ^ k) = ((d / 2 ^ k : Nat) : Int) := by simp
  rw [e] at h
  have h2 := odd_yes (Nat.lt_of_le_of_lt (Nat.div_le_self _ _) hd) h
  rw [Nat.testBit_eq_decide_div_mod_eq, decide_eq_true h2]
theorem bit_no {d k : Nat} (hd : d < 4294967296) (h : (bits BinOp.and IntKind.u32 ((d : Int) / 2 ^ k) 1 == 1) = false) : d.testBit k = false := by
  have e : ((d : Int) / 2 ^ k) = ((d / 2 ^ k : Nat) : Int) := by simp
  rw [e] at h
  have h2 := odd_no (Nat.lt_of_le_of_lt (Nat.div_le_self _ _) hd) h
  rw [Nat.testBit_eq_decide_div_mod_eq, decide_eq_false h2]
theorem flip_step {wr : World} {g a d k x : Nat} {X : List Nat} (hx : x < 256) (hxe : x = (Crc.flips X a d k).getD ((a + k) / 8) 0) (hb : d.testBit k = true)
    (h : Blk wr g 5 (u8s (Crc.flips X a d k)).toArray) :
    Blk (wr.setCell ⟨g, (a + k) / 8, none⟩ (.int .u8 (bits BinOp.xor IntKind.u8 (x : Int) (2 ^ ((a + k) % 8) % 256)))).drew g 5 (u8s (Crc.flips X a d (k + 1))).toArray := by
  have hp := Crc.pow_lt (a + k)
  have e1 : ((2 : Int) ^ ((a + k) % 8) % 256) = ((2 ^ ((a + k) % 8) : Nat) : Int) := by
    have e0 : ((2 ^ ((a + k) % 8) : Nat) : Int) = (2 : Int) ^ ((a + k) % 8) := by simp
    rw [← e0]
    generalize 2 ^ ((a + k) % 8) = p at hp
    omega
  rw [e1, u8_xor_nat x _ hx hp]
  have h2 := h.set_ ((a + k) / 8) (.int .u8 ((x ^^^ 2 ^ ((a + k) % 8) : Nat) : Int))
  rw [u8s_set, hxe] at h2
  rw [hxe, Crc.flips, if_pos hb]
  exact h2.drew

theorem walk_no (A : Option Addr) (n c : Nat) (l : List Nat) (at_ : Int) (d : Nat) (w : World) (h : In w A n c l) (hx : at_ < 0) :
    Calls Try.prog 7 #[.slice A n c, .int .i64 at_, .int .u32 d] w fun e w' => e = .returned (.bool true) ∧ Below w.heap.size w w' := by
  have HI := Lib.hid h
  clear h
  go_enter Try.func7, Try.ntmps7
  go_wp2_with fail
  refine (seal_any A n c l _ HI.out).mono ?_
  rintro e w1 ⟨rfl, hb1, _⟩
  go_wp2_with fail
  refine (alive_any _).mono ?_
  rintro e w4 ⟨rfl, hb4⟩
  go_wp2
  go_ret
  exact ⟨rfl, hb1.trans (hb4.mono hb1.size)⟩
theorem walk_nought (A : Option Addr) (n c : Nat) (l : List Nat) (k : Nat) (w : World) (h : In w A n c l) :
    Calls Try.prog 7 #[.slice A n c, .int .i64 k, .int .u32 0] w fun e w' => e = .returned (.bool true) ∧ Below w.heap.size w w' := by
  have HI := Lib.hid h
  clear h
  have hneg : decide ((k : Int) < 0) = false := by simp
  go_enter Try.func7, Try.ntmps7
  go_wp2_with fail
  refine (seal_any A n c l _ HI.out).mono ?_
  rintro e w1 ⟨rfl, hb1, _⟩
  go_wp2_with fail
  refine (alive_any _).mono ?_
  rintro e w4 ⟨rfl, hb4⟩
  go_wp2
  go_ret
  exact ⟨rfl, hb1.trans (hb4.mono hb1.size)⟩

theorem walk_yes (A : Option Addr) (n c : Nat) (l : List Nat) (k0 : Nat) (d : Nat) (w : World) (h : In w A n c l) (hd : d < 4294967296) (hp : 0 < d) (hk0 : k0 ≤ 9223372036854775807) :
    Calls Try.prog 7 #[.slice A n c, .int .i64 k0, .int .u32 d] w fun e w' => e = .returned (.bool true) ∧ Below w.heap.size w w' := by
  have hn : n ≤ 140737488351232 := h.2.2.1
  have HI := Lib.hid h
  clear h
  obtain ⟨X, hX⟩ : ∃ X, X = Crc.seal_ l := ⟨_, rfl⟩
  have HX : Hid (X.length = n + 4 ∧ (∀ z ∈ X, z < 256) ∧ Crc.Good X) := by
    rw [hX]
    exact ⟨by rw [Crc.seal_length, HI.out.1.len], Crc.seal_lt HI.out.1.lt, Crc.seal_good HI.out.1.lt⟩
  have HXE := Lib.hid hX
  clear hX
  have hle0 : k0 % (8 * (n + 4)) < 8 * (n + 4) := Nat.mod_lt k0 (by omega)
  obtain ⟨a, ha⟩ : ∃ a, a = k0 % (8 * (n + 4)) := ⟨_, rfl⟩
  have hmod : ((k0 : Int) % (8 * ((n : Int) + 4))) = (a : Int) := by rw [ha]; simp
  have HM := Lib.hid hmod
  rw [← ha] at hle0
  have hle : a < 8 * (n + 4) := hle0
  clear ha hle0 hmod
  have hzero : ((d : Int) == 0) = false := by rw [beq_eq_false_iff_ne]; omega
  have hneg : decide ((k0 : Int) < 0) = false := by simp
  have hlen : ((n : Int) + 4 == 0) = false := by rw [beq_eq_false_iff_ne]; omega
  have hsub : ((n : Int) + 4 - 4 != (n : Int)) = false := by simp
  go_enter Try.func7, Try.ntmps7
  go_wp2_with fail
  refine (seal_any A n c l _ HI.out).mono ?_
  rintro e w1 ⟨rfl, hb1, hblk⟩
  rw [← HXE.out] at hblk
  have HK1 := Lib.hid hblk
  clear hblk
  go_wp2_with fail
  rw [HM.out]
  go_loopw [8, 9] (fun t i wr => ∃ k : Nat, k ≤ 32 ∧ a + k ≤ 8 * (n + 4) ∧ i = .int .i64 k ∧ t = .bool (Crc.turned d k) ∧ Blk wr w.heap.size 5 (u8s (Crc.flips X a d k)).toArray ∧ Below w.heap.size w wr) (fun _ i _ => 32 - (intOf i).toNat)
  case atStart => exact ⟨0, by omega, by omega, rfl, rfl, HK1.out, hb1⟩
  case round =>
    clear HK1 hb1
    obtain ⟨k, hk, hak, rfl, rfl, hblk, hb⟩ := hrel
    have HK := Lib.hid hblk
    clear hblk
    by_cases hgo : k < 32 ∧ a + k < 8 * (n + 4)
    · obtain ⟨h32, hin⟩ := hgo
      obtain ⟨x, hxe⟩ : ∃ x, x = (Crc.flips X a d k).getD ((a + k) / 8) 0 := ⟨_, rfl⟩
      have hx : x < 256 := by rw [hxe]; exact Crc.getD_lt (Crc.flips_lt HX.out.2.1 _ _ _) _
      have hq : (a + k) / 8 < n + 4 := by omega
      have hcell : wr.cell? ⟨w.heap.size, (a + k) / 8, none⟩ = some (.int .u8 (x : Int)) := by
        have hl : (Crc.flips X a d k).length = n + 4 := by rw [Crc.flips_length, HX.out.1]
        rw [HK.out.cell, hxe]
        simp [u8s, hl, hq]
      have hfz : wr.frozen? ⟨w.heap.size, (a + k) / 8, none⟩ = false := HK.out.frozen _
      have HXX := Lib.hid hxe
      clear hxe
      go_wp2
      · have hbit := bit_yes hd (by assumption)
        have HF := Lib.hid (flip_step hx HXX.out hbit HK.out)
        have HT : Hid (Crc.turned d (k + 1) = true) := by
          show Crc.turned d (k + 1) = true
          rw [Crc.turned, hbit, Bool.or_true]
        clear hbit
        go_region
        go_wp2
        go_roundw
        case rel => exact ⟨k + 1, by omega, by omega, by go_num, by rw [HT.out], HF.out, (hb.setCell (Nat.le_refl _) _).drew⟩
        case measure => simp [intOf]; omega
      · have hbit := bit_no hd (by assumption)
        have HF : Hid (Blk wr w.heap.size 5 (u8s (Crc.flips X a d (k + 1))).toArray) := by
          have := HK.out
          have e : Crc.flips X a d (k + 1) = Crc.flips X a d k := by rw [Crc.flips, hbit]; rfl
          rw [← e] at this
          exact this
        have HT : Hid (Crc.turned d (k + 1) = Crc.turned d k) := by
          show Crc.turned d (k + 1) = Crc.turned d k
          rw [Crc.turned, hbit, Bool.or_false]
        clear hbit
        go_roundw
        case rel => exact ⟨k + 1, by omega, by omega, by go_num, by rw [HT.out], HF.out, hb⟩
        case measure => simp [intOf]; omega
    · have hlt := Crc.flips_lt HX.out.2.1 a d k
      have hl : (Crc.flips X a d k).length = n + 4 := by rw [Crc.flips_length, HX.out.1]
      have HR := Lib.hid (RB.of_blk (n := n + 4) HK.out hlt hl)
      have HG : Hid (Crc.turned d k = false → Crc.Good (Crc.flips X a d k)) := fun h => by rw [Crc.flips_none h]; exact HX.out.2.2
      have HB : Hid (Crc.turned d k = true → ¬ Crc.Good (Crc.flips X a d k)) := fun h => Crc.flips_no HX.out.2.1 HX.out.2.2 a d k (by rw [HX.out.1]; exact hak) hk h
      clear hlt hl
      have hor : ¬ k < 32 ∨ (k < 32 ∧ ¬ a + k < 8 * (n + 4)) := by omega
      clear hgo
      rcases hor with h32 | ⟨h32, hin⟩
      all_goals
        go_wp2_with fail
        cases ht : Crc.turned d k with
        | true =>
          refine (open_no _ (n + 4) (n + 4) _ _ (by omega) (Nat.le_refl _) (by omega) HR.out (HB.out ht)).mono ?_
          rintro e w3 ⟨rfl, hb3⟩
          have hb3' := hb.trans (hb3.mono hb.size)
          clear hb3 ht
          go_wp2_with fail
          refine (alive_any _).mono ?_
          rintro e w4 ⟨rfl, hb4⟩
          go_wp2
          go_ret
          exact ⟨rfl, hb3'.trans (hb4.mono hb3'.size)⟩
        | false =>
          refine (open_yes _ (n + 4) (n + 4) _ _ (by omega) (Nat.le_refl _) (by omega) HR.out (HG.out ht)).mono ?_
          rintro e w3 ⟨A3, c3, rfl, _, hb3, _⟩
          have hb3' := hb.trans (hb3.mono hb.size)
          clear hb3 ht
          go_wp2_with fail
          refine (alive_any _).mono ?_
          rintro e w4 ⟨rfl, hb4⟩
          go_wp2
          go_ret
          exact ⟨rfl, hb3'.trans (hb4.mono hb3'.size)⟩

theorem walked (A : Option Addr) (n c : Nat) (l : List Nat) (at_ : Int) (d : Nat) (w : World) (h : In w A n c l) (hb : -9223372036854775808 ≤ at_ ∧ at_ ≤ 9223372036854775807) (hd : d < 4294967296) :
    Calls Try.prog 7 #[.slice A n c, .int .i64 at_, .int .u32 d] w fun e w' => e = .returned (.bool true) ∧ Below w.heap.size w w' := by
  by_cases hx : at_ < 0
  · exact walk_no A n c l at_ d w h hx
  · obtain ⟨k, rfl⟩ := Int.eq_ofNat_of_zero_le (show 0 ≤ at_ by omega)
    rcases Nat.eq_zero_or_pos d with h0 | hp
    · subst h0
      exact walk_nought A n c l k w h
    · exact walk_yes A n c l k d w h hd hp (by omega)
end Go.Proofs.Ytdmfkmaelebogaa.sumBursts
