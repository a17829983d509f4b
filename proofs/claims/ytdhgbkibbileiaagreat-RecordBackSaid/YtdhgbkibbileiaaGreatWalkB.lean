/-
  THE WALKS OF THE WRITER's CALLS: fixed numbers.
-/
import Derived.Test.YtdhgbkibbileiaaGreatWalkA
import Derived.Deep.RegionLaw
import Derived.Deep.DrawnRows
namespace Go.Proofs.YtdhgbkibbileiaaGreat
open Go.RowKit

set_option maxRecDepth 100000 in
theorem len8 (w : World) : Calls Tryz.prog 128 #[.int .u64 255] w fun e w' => e = .returned (.int .i64 8) ∧ w = w' := by
  go_enter Tryz.func128, Tryz.ntmps128
  go_wp2
  go_ret
  exact ⟨by kernel_rfl, rfl⟩
set_option maxRecDepth 100000 in
theorem len16 (w : World) : Calls Tryz.prog 128 #[.int .u64 65535] w fun e w' => e = .returned (.int .i64 16) ∧ w = w' := by
  go_enter Tryz.func128, Tryz.ntmps128
  go_wp2
  go_ret
  exact ⟨by kernel_rfl, rfl⟩
set_option maxRecDepth 100000 in
theorem len32 (w : World) : Calls Tryz.prog 128 #[.int .u64 4294967295] w fun e w' => e = .returned (.int .i64 32) ∧ w = w' := by
  go_enter Tryz.func128, Tryz.ntmps128
  go_wp2
  go_ret
  exact ⟨by kernel_rfl, rfl⟩
set_option maxRecDepth 100000 in
theorem len64 (w : World) : Calls Tryz.prog 128 #[.int .u64 18446744073709551615] w fun e w' => e = .returned (.int .i64 64) ∧ w = w' := by
  go_enter Tryz.func128, Tryz.ntmps128
  go_wp2
  go_ret
  exact ⟨by kernel_rfl, rfl⟩
set_option maxRecDepth 100000 in
theorem size8 (w : World) : Calls Tryz.prog 104 #[] w fun e w' => e = .returned (.int .i64 1) ∧ w = w' := by
  go_enter Tryz.func104, Tryz.ntmps104
  go_wp2_with (go_at_call 128; refine (len8 _).mono ?_; rintro e w' ⟨rfl, rfl⟩)
  go_ret
  exact ⟨rfl, rfl⟩
set_option maxRecDepth 100000 in
theorem size16 (w : World) : Calls Tryz.prog 98 #[] w fun e w' => e = .returned (.int .i64 2) ∧ w = w' := by
  go_enter Tryz.func98, Tryz.ntmps98
  go_wp2_with (go_at_call 128; refine (len16 _).mono ?_; rintro e w' ⟨rfl, rfl⟩)
  go_ret
  exact ⟨rfl, rfl⟩
set_option maxRecDepth 100000 in
theorem shr_byte (x k : Nat) : IntKind.u8.wrap ((x : Int) / 2 ^ (8 * (k : Int)).toNat) = ((x / 256 ^ k % 256 : Nat) : Int) := by
  have h2 : (8 * (k : Int)).toNat = 8 * k := by omega
  have h4 : ((x : Int) / 2 ^ (8 * k)) = ((x / 256 ^ k : Nat) : Int) := by
    have : (2 : Int) ^ (8 * k) = ((256 ^ k : Nat) : Int) := by
      rw [Int.pow_mul]
      simp
    rw [this]
    simp
  rw [h2, h4]
  simp only [IntKind.wrap_u8]
  omega
set_option maxRecDepth 100000 in
theorem shr_u8 (x k : Nat) (hx : x < 256) : (x : Int) / 2 ^ (8 * (k : Int)).toNat = ((x / 256 ^ k % 256 : Nat) : Int) := by
  have h2 : (8 * (k : Int)).toNat = 8 * k := by omega
  have h4 : ((x : Int) / 2 ^ (8 * k)) = ((x / 256 ^ k : Nat) : Int) := by
    have : (2 : Int) ^ (8 * k) = ((256 ^ k : Nat) : Int) := by
      rw [Int.pow_mul]
      simp
    rw [this]
    simp
  rw [h2, h4, Nat.mod_eq_of_lt (Nat.lt_of_le_of_lt (Nat.div_le_self _ _) hx)]
set_option maxRecDepth 100000 in
theorem wrap8 (k : Nat) (h : k ≤ 8) : IntKind.i64.wrap (8 * (k : Int)) = 8 * (k : Int) := IntWalk.i64_in _ (by omega)

set_option maxRecDepth 100000 in
set_option maxHeartbeats 1000000 in
theorem wfix8_some (w : World) (S : Nat → Prop) (g : Nat) (l : List Nat) (x : Nat) (hx : x < 256) (hl : l.length ≤ 1099511627776) (h : Wr w S (some g) true l) :
    Calls Tryz.prog 68 #[ptr (some g), .int .u8 (x : Int)] w fun e w' => e = .returned (.tuple #[]) ∧ Wr w' (Up S w) (some g) true (l ++ Cd.fixB 1 x) ∧ Fr w w' S := by
  have HW := Lib.hid (writable_any w S (some g) true l h)
  have HI := Lib.hid (Wi.start h)
  clear h
  simp only [ptr, Option.map] at HW ⊢
  go_enter Tryz.func68, Tryz.ntmps68
  go_wp2_with (first | (go_at_call 95; refine HW.out.mono ?_; rintro e w' ⟨rfl, rfl⟩) | (go_at_call 104; refine (size8 _).mono ?_; rintro e w' ⟨rfl, rfl⟩))
  go_loopw [9] (fun v wr => ∃ k : Nat, v = .int .i64 (k : Int) ∧ k ≤ 1 ∧ Wi w S g (l ++ Cd.fixB k x) wr) (fun v _ => 1 - (intOf v).toNat)
  case atStart => exact ⟨0, rfl, by omega, by simpa [Cd.fixB] using HI.out⟩
  case round =>
    obtain ⟨k, rfl, hk, hi⟩ := hrel
    obtain ⟨hg, v, n, hb, ho, hf⟩ := hi
    have hln := ho.len
    simp only [List.length_append, Cd.fixB_len] at hln
    have hn2 : n ≤ 1099511627776 + 10 := by omega
    have HO := Lib.hid ho
    have HB := Lib.hid hb
    have HF := Lib.hid hf
    have hcc : wr.cell? ⟨g, 1, none⟩ = some v := by simpa using hb.cell 1
    have hcc2 : wr.frozen? ⟨g, 1, none⟩ = false := hb.frozen 1
    have hgl : g < wr.heap.size := hb.lt
    clear ho hb hf hln
    by_cases hlt : k < 1
    · have hwr := wrap8 k (by omega)
      go_wp2
      go_region_law ((refine step_app rfl (.tmp 16) (.tmp 21) rfl v n (l ++ Cd.fixB k x) rfl (by first | exact (HO.out.alloc _).drew | exact HO.out.drew.alloc _) (fun _ => True) (some ⟨wr.heap.size, 0, none⟩) 1 1 [x / 256 ^ k % 256] rfl (by exact one_of _ _ _ (by exact shr_u8 x k hx) (by omega)) (by omega) ?_; intro v1 w1 hown hgrow; obtain ⟨A1, cc1, rfl, _, _, _⟩ := hown.reads; obtain ⟨hc1, hf1⟩ := push_cell (HB.out.drew.alloc _) (HO.out.drew.alloc _) hgrow; have HS := Lib.hid (Wi.step hg (HB.out.drew.alloc _) (HO.out.drew.alloc _) (HF.out.drew.alloc _) hgrow hown); clear hown hgrow))
      all_goals
        go_wp2
        go_roundw
        case rel => exact ⟨k + 1, by go_num, by omega, by rw [Cd.fixB_snoc, ← List.append_assoc]; exact HS.out⟩
        case measure => simp [intOf]; omega
    · obtain rfl : k = 1 := by omega
      go_wp2
      go_end0
      exact ⟨rfl, Wi.done ⟨hg, v, n, HB.out, HO.out, HF.out⟩⟩
set_option maxRecDepth 100000 in
set_option maxHeartbeats 1000000 in
theorem wfix16_some (w : World) (S : Nat → Prop) (g : Nat) (l : List Nat) (x : Nat) (hl : l.length ≤ 1099511627776) (h : Wr w S (some g) true l) :
    Calls Tryz.prog 94 #[ptr (some g), .int .u16 (x : Int)] w fun e w' => e = .returned (.tuple #[]) ∧ Wr w' (Up S w) (some g) true (l ++ Cd.fixB 2 x) ∧ Fr w w' S := by
  have HW := Lib.hid (writable_any w S (some g) true l h)
  have HI := Lib.hid (Wi.start h)
  clear h
  simp only [ptr, Option.map] at HW ⊢
  go_enter Tryz.func94, Tryz.ntmps94
  go_wp2_with (first | (go_at_call 95; refine HW.out.mono ?_; rintro e w' ⟨rfl, rfl⟩) | (go_at_call 98; refine (size16 _).mono ?_; rintro e w' ⟨rfl, rfl⟩))
  go_loopw [9] (fun v wr => ∃ k : Nat, v = .int .i64 (k : Int) ∧ k ≤ 2 ∧ Wi w S g (l ++ Cd.fixB k x) wr) (fun v _ => 2 - (intOf v).toNat)
  case atStart => exact ⟨0, rfl, by omega, by simpa [Cd.fixB] using HI.out⟩
  case round =>
    obtain ⟨k, rfl, hk, hi⟩ := hrel
    obtain ⟨hg, v, n, hb, ho, hf⟩ := hi
    have hln := ho.len
    simp only [List.length_append, Cd.fixB_len] at hln
    have hn2 : n ≤ 1099511627776 + 10 := by omega
    have HO := Lib.hid ho
    have HB := Lib.hid hb
    have HF := Lib.hid hf
    have hcc : wr.cell? ⟨g, 1, none⟩ = some v := by simpa using hb.cell 1
    have hcc2 : wr.frozen? ⟨g, 1, none⟩ = false := hb.frozen 1
    have hgl : g < wr.heap.size := hb.lt
    clear ho hb hf hln
    by_cases hlt : k < 2
    · have hwr := wrap8 k (by omega)
      go_wp2
      go_region_law ((refine step_app rfl (.tmp 16) (.tmp 22) rfl v n (l ++ Cd.fixB k x) rfl (by first | exact (HO.out.alloc _).drew | exact HO.out.drew.alloc _) (fun _ => True) (some ⟨wr.heap.size, 0, none⟩) 1 1 [x / 256 ^ k % 256] rfl (by exact one_of _ _ _ (by exact shr_byte x k) (by omega)) (by omega) ?_; intro v1 w1 hown hgrow; obtain ⟨A1, cc1, rfl, _, _, _⟩ := hown.reads; obtain ⟨hc1, hf1⟩ := push_cell (HB.out.drew.alloc _) (HO.out.drew.alloc _) hgrow; have HS := Lib.hid (Wi.step hg (HB.out.drew.alloc _) (HO.out.drew.alloc _) (HF.out.drew.alloc _) hgrow hown); clear hown hgrow))
      all_goals
        go_wp2
        go_roundw
        case rel => exact ⟨k + 1, by go_num, by omega, by rw [Cd.fixB_snoc, ← List.append_assoc]; exact HS.out⟩
        case measure => simp [intOf]; omega
    · obtain rfl : k = 2 := by omega
      go_wp2
      go_end0
      exact ⟨rfl, Wi.done ⟨hg, v, n, HB.out, HO.out, HF.out⟩⟩
end Go.Proofs.YtdhgbkibbileiaaGreat
