/-
  THE WALK OF SumBytes: a sealed text with just one byte changed is opened no more.
-/
import Derived.Test.YtdmfkmaelebogaaWalkF
import Derived.Test.YtdmfkmaelebogaaFlips
import Derived.BigRegion
import Derived.RegionTactic
namespace Go.Proofs.Ytdmfkmaelebogaa.sumBytes
open Go.RowKit

theorem walk_no (A : Option Addr) (n c : Nat) (l : List Nat) (at_ : Int) (d : Nat) (w : World) (h : In w A n c l) (hx : at_ < 0) :
    Calls Try.prog 8 #[.slice A n c, .int .i64 at_, .int .u8 d] w fun e w' => e = .returned (.bool true) ∧ Below w.heap.size w w' := by
  have HI := Lib.hid h
  clear h
  go_enter Try.func8, Try.ntmps8
  go_wp2_with fail
  refine (seal_any A n c l _ HI.out).mono ?_
  rintro e w1 ⟨rfl, hb1, _⟩
  go_wp2_with fail
  refine (alive_any _).mono ?_
  rintro e w4 ⟨rfl, hb4⟩
  go_wp2
  go_ret
  exact ⟨rfl, hb1.trans (hb4.mono hb1.size)⟩
theorem walk_nought (A : Option Addr) (n c : Nat) (l : List Nat) (k : Nat) (w : World) (h : In w A n c l) :
    Calls Try.prog 8 #[.slice A n c, .int .i64 k, .int .u8 0] w fun e w' => e = .returned (.bool true) ∧ Below w.heap.size w w' := by
  have HI := Lib.hid h
  clear h
  have hneg : decide ((k : Int) < 0) = false := by simp
  go_enter Try.func8, Try.ntmps8
  go_wp2_with fail
  refine (seal_any A n c l _ HI.out).mono ?_
  rintro e w1 ⟨rfl, hb1, _⟩
  go_wp2_with fail
  refine (alive_any _).mono ?_
  rintro e w4 ⟨rfl, hb4⟩
  go_wp2
  go_ret
  exact ⟨rfl, hb1.trans (hb4.mono hb1.size)⟩

theorem walk_yes (A : Option Addr) (n c : Nat) (l : List Nat) (k : Nat) (d : Nat) (w : World) (h : In w A n c l) (hd : d < 256) (hp : 0 < d) (hk : k ≤ 9223372036854775807) :
    Calls Try.prog 8 #[.slice A n c, .int .i64 k, .int .u8 d] w fun e w' => e = .returned (.bool true) ∧ Below w.heap.size w w' := by
  have hn : n ≤ 140737488351232 := h.2.2.1
  have HI := Lib.hid h
  clear h
  have hle0 : k % (n + 4) < n + 4 := Nat.mod_lt k (by omega)
  obtain ⟨m, hm⟩ : ∃ m, m = k % (n + 4) := ⟨_, rfl⟩
  have hmod : ((k : Int) % ((n : Int) + 4)) = (m : Int) := by rw [hm]; simp
  have hmod2 : ((k : Int).tmod ((n : Int) + 4)) = (m : Int) := by rw [Int.tmod_eq_emod_of_nonneg (by omega), hmod]
  rw [← hm] at hle0
  have hle := hle0
  have hleI : (m : Int) < (n : Int) + 4 := by omega
  clear hm hle0
  have hlen2 : ¬ ((n : Int) + 4 = 0) := by omega
  have hzero : ((d : Int) == 0) = false := by rw [beq_eq_false_iff_ne]; omega
  have hneg : decide ((k : Int) < 0) = false := by simp
  have hlen : ((n : Int) + 4 == 0) = false := by rw [beq_eq_false_iff_ne]; omega
  go_enter Try.func8, Try.ntmps8
  go_wp2_with fail
  refine (seal_any A n c l _ HI.out).mono ?_
  rintro e w1 ⟨rfl, hb1, hblk⟩
  obtain ⟨x, hxe⟩ : ∃ x, x = (Crc.seal_ l).getD (m) 0 := ⟨_, rfl⟩
  have hx : x < 256 := by rw [hxe]; exact Crc.getD_lt (Crc.seal_lt HI.out.1.lt) _
  have hcell : w1.cell? ⟨w.heap.size, m, none⟩ = some (.int .u8 (x : Int)) := by
    have hl : (Crc.seal_ l).length = n + 4 := by rw [Crc.seal_length, HI.out.1.len]
    rw [hblk.cell, hxe]
    simp [u8s, hl, hle]
  have hfz : w1.frozen? ⟨w.heap.size, m, none⟩ = false := hblk.frozen _
  have hxor := u8_xor_nat x d hx hd
  have HX := Lib.hid hxe
  have HK := Lib.hid hblk
  clear hblk hxe
  go_wp2_with fail
  go_region
  have hblk2 : Blk (w1.setCell ⟨w.heap.size, m, none⟩ (.int .u8 ((x ^^^ d : Nat) : Int))).drew w.heap.size 5 (u8s ((Crc.seal_ l).set m (x ^^^ d))).toArray := by
    have := HK.out.set_ m (.int .u8 ((x ^^^ d : Nat) : Int))
    rw [u8s_set] at this
    exact this.drew
  have hb2 : Below w.heap.size w (w1.setCell ⟨w.heap.size, m, none⟩ (.int .u8 ((x ^^^ d : Nat) : Int))).drew := (hb1.setCell (Nat.le_refl _) _).drew
  obtain ⟨w2, hw2⟩ : ∃ w2, w2 = (w1.setCell ⟨w.heap.size, m, none⟩ (.int .u8 ((x ^^^ d : Nat) : Int))).drew := ⟨_, rfl⟩
  rw [← hw2] at hblk2 hb2 ⊢
  clear hw2 hcell hfz hb1 HK
  have hlt := Crc.seal_lt HI.out.1.lt
  have hl : (Crc.seal_ l).length = n + 4 := by rw [Crc.seal_length, HI.out.1.len]
  have hbad : ¬ Crc.Good ((Crc.seal_ l).set m (x ^^^ d)) := by
    rw [HX.out]
    exact Crc.byte_no hlt (Crc.seal_good HI.out.1.lt) m d (by omega) hp hd
  have hv : x ^^^ d < 256 := Crc.byte_lt hx hd
  have HR := Lib.hid (RB.of_blk (n := n + 4) hblk2 (Crc.set_lt hlt hv) (by simp [hl]))
  have HB := Lib.hid hbad
  clear hbad hblk2 hl hlt hv
  go_wp2_with fail
  refine (open_no _ (n + 4) (n + 4) _ _ (by omega) (Nat.le_refl _) (by omega) HR.out HB.out).mono ?_
  rintro e w3 ⟨rfl, hb3⟩
  have hb3' := hb2.trans (hb3.mono hb2.size)
  clear hb3
  go_wp2_with fail
  refine (alive_any _).mono ?_
  rintro e w4 ⟨rfl, hb4⟩
  go_wp2
  go_ret
  exact ⟨rfl, hb3'.trans (hb4.mono hb3'.size)⟩

theorem walked (A : Option Addr) (n c : Nat) (l : List Nat) (at_ : Int) (d : Nat) (w : World) (h : In w A n c l) (hb : -9223372036854775808 ≤ at_ ∧ at_ ≤ 9223372036854775807) (hd : d < 256) :
    Calls Try.prog 8 #[.slice A n c, .int .i64 at_, .int .u8 d] w fun e w' => e = .returned (.bool true) ∧ Below w.heap.size w w' := by
  by_cases hx : at_ < 0
  · exact walk_no A n c l at_ d w h hx
  · obtain ⟨k, rfl⟩ := Int.eq_ofNat_of_zero_le (show 0 ≤ at_ by omega)
    rcases Nat.eq_zero_or_pos d with h0 | hp
    · subst h0
      exact walk_nought A n c l k w h
    · exact walk_yes A n c l k d w h hd hp (by omega)
end Go.Proofs.Ytdmfkmaelebogaa.sumBytes
