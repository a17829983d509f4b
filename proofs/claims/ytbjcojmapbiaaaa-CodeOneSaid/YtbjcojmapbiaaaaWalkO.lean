/-
  THE WALK OF alive: the answers that the document fixes are given: it returns true, and writes nothing that was there.
-/
import Derived.Test.YtbjcojmapbiaaaaWalkN
namespace Go.Proofs.Ytbjcojmapbiaaaa
open Go.RowKit

theorem Wrote.go {w w' : World} {B : Nat} {p : Option Nat} {l k : List Nat} (h : Wrote w (fun b => B ≤ b) p true l k w') (hB : B ≤ w.heap.size) : Wr w' (fun b => B ≤ b) p true (l ++ k) ∧ Below B w w' :=
  ⟨Wr.mono h.1 fun b _ hb => hb.elim id fun hb => by omega, h.2.below (fun _ hb => hb) hB⟩

theorem alive_bytes : [] ++ Cd.fixB 2 258 ++ Cd.vi 300 ++ Cd.vi (Cd.zz (-1)) ++ Cd.tx (bs ⟨#[97, 98]⟩) = [2, 1, 172, 2, 1, 2, 97, 98] := by
  have e1 : Cd.vi 300 = [172, 2] := by rw [Cd.vi_big (by omega), Cd.vi_small (by omega)]
  have e2 : Cd.vi (Cd.zz (-1)) = [1] := by rw [show Cd.zz (-1) = 1 from rfl, Cd.vi_small (by omega)]
  have e3 : Cd.tx (bs ⟨#[97, 98]⟩) = [2, 97, 98] := by
    have : bs ⟨#[97, 98]⟩ = [97, 98] := rfl
    rw [this, Cd.tx, Cd.vi_small (by decide)]
    rfl
  rw [e1, e2, e3]
  rfl
theorem alive_front : Cd.front [172, 2, 7] = some (300, 2) := by decide

set_option maxRecDepth 100000 in
set_option maxHeartbeats 1000000 in
theorem alive_any (w : World) : Calls Try.prog 10 #[] w fun e w' => e = .returned (.bool true) ∧ Below w.heap.size w w' := by
  go_enter Try.func10, Try.ntmps10
  go_wp2_with fail
  refine (newWriter_any w).mono ?_
  rintro e w1 ⟨rfl, hw1, hb1⟩
  have hs1 := hb1.size
  have HC := Lib.hid (wu16_any w1 _ _ true [] 258 (by simp) hw1)
  have HB1 := Lib.hid hb1
  clear hw1 hb1
  go_wp2_with fail
  refine HC.out.mono ?_
  rintro e w2 ⟨rfl, hw⟩
  obtain ⟨hw2, hb2⟩ := hw.go hs1
  have hs2 := hb2.size
  have HC2 := Lib.hid (wuint_any w2 _ _ true _ 300 (by omega) (by simp [Cd.fixB_len]) hw2)
  have HB2 := Lib.hid (HB1.out.trans hb2)
  clear hw hw2 hb2
  go_wp2_with fail
  refine HC2.out.mono ?_
  rintro e w3 ⟨rfl, hw⟩
  obtain ⟨hw3, hb3⟩ := hw.go (by omega)
  have hs3 := hb3.size
  have h10 := Cd.vi_len10 300 (by omega)
  have HC3 := Lib.hid (wint_any w3 _ _ true _ (-1) (by omega) (by omega) (by simp [Cd.fixB_len]; omega) hw3)
  have HB3 := Lib.hid (HB2.out.trans hb3)
  clear hw hw3 hb3
  go_wp2_with fail
  refine HC3.out.mono ?_
  rintro e w4 ⟨rfl, hw⟩
  obtain ⟨hw4, hb4⟩ := hw.go (by omega)
  have hs4 := hb4.size
  have h11 := Cd.vi_len10 (Cd.zz (-1)) (by decide)
  have HC4 := Lib.hid (wtext_any w4 _ _ true _ ⟨#[97, 98]⟩ (by decide) (by simp [Cd.fixB_len]; omega) hw4)
  have HB4 := Lib.hid (HB3.out.trans hb4)
  clear hw hw4 hb4
  go_wp2_with fail
  refine HC4.out.mono ?_
  rintro e w5 ⟨rfl, hw⟩
  obtain ⟨hw5, hb5⟩ := hw.go (by omega)
  have hs5 := hb5.size
  rw [alive_bytes] at hw5
  have HB5 := Lib.hid (HB4.out.trans hb5)
  have HW5 := Lib.hid (Wr.alloc hw5 (.cells #[.int .u8 172, .int .u8 2, .int .u8 7] 5))
  have hrb : RB (w5.alloc (.cells #[.int .u8 172, .int .u8 2, .int .u8 7] 5)) (fun _ => True) (some ⟨w5.heap.size, 0, none⟩) 3 [172, 2, 7] := RB.of_blk (Blk.new w5 5 _) trivial (by decide) rfl
  have HR := Lib.hid (newReader_any _ _ _ 3 3 _ hrb (by omega))
  clear hw hw5 hb5 hrb
  go_wp2_with fail
  refine HR.out.mono ?_
  rintro e w6 ⟨g, rfl, hr6, hb6⟩
  have hs6 := hb6.size
  simp only [World.size_alloc] at hs6
  have HW6 := Lib.hid (Wr.keep HW5.out (Fr.of_below hb6 No) fun _ _ hn => hn)
  have HB6 := Lib.hid ((HB5.out.alloc (by omega) _).trans (hb6.mono (by simp; omega)))
  have HC6 := Lib.hid (uint_any w6 _ _ true _ hr6)
  clear hr6 hb6
  go_wp2_with fail
  refine HC6.out.mono ?_
  rintro e w7 ⟨rfl, hr7, hf7⟩
  rw [alive_front] at hr7
  have hs7 := hf7.size
  have hw7 := Wr.keep HW6.out hf7 (fun b hb => by have := hb.2; simp; omega)
  have HB7 := Lib.hid (HB6.out.trans (hf7.below (B := w.heap.size) (fun b hb => by simp at hb; omega) (by omega)))
  have hr7' : Rd w7 (fun b => (w5.alloc (.cells #[.int .u8 172, .int .u8 2, .int .u8 7] 5)).heap.size ≤ b) (some g) true [7] := hr7
  have HR7 := Lib.hid (Rd.up hr7')
  have HW7 := Lib.hid (Wr.up hw7)
  have HC7 := Lib.hid (wbytes_any w7 _ _ true _ hw7 (by simp))
  have hv : (valO true (Cd.front [172, 2, 7]) 0 : Nat) = 300 := by rw [alive_front]; rfl
  rw [hv]
  clear hr7 hr7' hf7 hw7 hv
  go_wp2_with fail
  refine HC7.out.mono ?_
  rintro e w8 ⟨v, rfl, ho, hb8⟩
  obtain ⟨A, c, rfl, _, _, hr8⟩ := ho.reads
  have hcv : (convert 27 9 (.slice A 8 c)).run Try.prog w8 = .ok (.string ⟨#[2, 1, 172, 2, 1, 2, 97, 98]⟩) w8 := run_conv _ A 8 c _ w8 hr8
  have hf8 := Fr.of_below hb8 (fun b => w7.heap.size ≤ b)
  have HL := Lib.hid (wlen_any w8 _ _ true _ (Wr.keep HW7.out hf8 fun b hb => by omega))
  have hR8 := Rd.keep HR7.out hf8 fun b hb => by omega
  have HL2 := Lib.hid (left_any w8 _ _ true _ hR8)
  have HE := Lib.hid (end_any w8 _ _ true _ hR8)
  have hs8 := hb8.size
  have HB8 := Lib.hid (HB7.out.trans (hb8.mono (by omega)))
  clear ho hr8 hf8 hR8 hb8
  simp only [List.length_cons, List.length_nil] at HL HL2
  go_wp2_with (first | (go_at_call 14; refine HL.out.mono ?_; rintro e w' ⟨rfl, rfl⟩) | (go_at_call 17; refine HL2.out.mono ?_; rintro e w' ⟨rfl, rfl⟩))
  refine HE.out.mono ?_
  rintro e w9 ⟨rfl, hr9, hf9⟩
  have HU := Lib.hid (ru8_any w9 _ _ _ _ hr9)
  have hs9 := hf9.size
  have HB9 := Lib.hid (HB8.out.trans (hf9.below (B := w.heap.size) (fun b hb => by have := hb.1; simp at this; omega) (by omega)))
  clear hr9 hf9
  simp only [List.isEmpty_cons, Bool.and_false, errOf, Bool.false_eq_true, if_false] at HU ⊢
  go_wp2_with fail
  refine HU.out.mono ?_
  rintro e w10 ⟨rfl, _, hf10⟩
  have HB10 := Lib.hid (HB9.out.trans (hf10.below (B := w.heap.size) (fun b hb => by have := hb.1; simp at this; omega) (by omega)))
  have hv : (valO false (fixO [7] 1) 0 : Nat) = 0 := rfl
  rw [hv]
  clear hf10 hv
  go_wp2
  go_ret
  exact ⟨rfl, HB10.out⟩
end Go.Proofs.Ytbjcojmapbiaaaa
