/-
  THE WALK OF awake.
-/
import Derived.Test.YtjfpkjpicalfmaaDoorWalkQ
namespace Go.Proofs.YtjfpkjpicalfmaaDoor
open Go.RowKit Go.Sort
attribute [local go_sem high] run_eq23 run_neq23 run_eq9

theorem seq_data (a b : ByteArray) : seq a b = (a.data.toList == b.data.toList) := by
  unfold seq; rw [ByteArray.toList_eq, ByteArray.toList_eq]
theorem wake_may : may 1 4 ⟨#[]⟩ = true := by simp [may, seq_refl]
theorem wake_cmp : cmpV ⟨0, 0, ⟨#[]⟩⟩ ⟨1, 1, ⟨#[]⟩⟩ = -1 ∧ cmpE ⟨0, 0, ⟨#[]⟩⟩ ⟨1, 1, ⟨#[]⟩⟩ = 0 := by
  simp [cmpV, cmpE, V.may, may, seq_refl, ord, place, firstOf, Lib.compareInt]
theorem wake_div : reckV 3 ⟨1, -7, ⟨#[]⟩⟩ ⟨1, 2, ⟨#[]⟩⟩ = ⟨1, -3, ⟨#[]⟩⟩ ∧ reckE 3 ⟨1, -7, ⟨#[]⟩⟩ ⟨1, 2, ⟨#[]⟩⟩ = 0 := by
  simp [reckV, reckE, want, V.may, may, seq_refl, fits, V.isNull, veq, calcE, calcN, In64, opI]
theorem wake_print : seq (printT ⟨#[105, 116, 39, 115]⟩) ⟨#[39, 105, 116, 39, 39, 115, 39]⟩ = true := by
  rw [seq_data]
  unfold printT esc
  rw [repl_esc]
  simp [escL, ByteArray.data_append]
theorem wake_veq : veq 1 (-3) ⟨#[]⟩ 1 (-3) ⟨#[]⟩ = true := by simp [veq, seq_refl]

set_option maxRecDepth 100000 in
set_option maxHeartbeats 4000000 in
theorem awake_any (w : World) (hw : Sm w) : Calls Tryd.prog 16 #[] w fun e w' => e = .returned (.bool true) ∧ Below w.heap.size w w' := by
  have HC := Lib.hid (compare_any ⟨0, 0, ⟨#[]⟩⟩ ⟨1, 1, ⟨#[]⟩⟩ (Nat.zero_le _) (Nat.zero_le _))
  have HD := Lib.hid (vdiv_any ⟨1, -7, ⟨#[]⟩⟩ ⟨1, 2, ⟨#[]⟩⟩ (by simp [In64]) (Nat.zero_le _) (Nat.zero_le _))
  have HP := Lib.hid (print_text ⟨#[105, 116, 39, 115]⟩ (by decide))
  have HM := Lib.hid (may_any 1 4 ⟨#[]⟩ (Nat.zero_le _))
  rw [wake_cmp.1, wake_cmp.2] at HC
  rw [wake_div.1, wake_div.2] at HD
  rw [wake_may] at HM
  simp only at HC HD
  have hq := wake_print
  have hv := wake_veq
  generalize printT ⟨#[105, 116, 39, 115]⟩ = pt at HP hq
  have HW := Lib.hid hw
  clear hw
  go_enter Tryd.func16, Tryd.ntmps16
  go_wp2_with fail
  refine (num_any _ _).mono ?_
  rintro e w1 ⟨rfl, hb1⟩
  have HB1 := Lib.hid hb1
  clear hb1
  go_wp2_with fail
  refine (HC.out _).mono ?_
  rintro e w2 ⟨rfl, hb2⟩
  have HB2 := Lib.hid (below_trans HB1.out hb2)
  clear hb2
  go_wp2_with fail
  refine (num_any _ _).mono ?_
  rintro e w3 ⟨rfl, hb3⟩
  have HB3 := Lib.hid (below_trans HB2.out hb3)
  clear hb3
  go_wp2_with fail
  refine (num_any _ _).mono ?_
  rintro e w4 ⟨rfl, hb4⟩
  have HB4 := Lib.hid (below_trans HB3.out hb4)
  clear hb4
  go_wp2_with fail
  refine (HD.out _).mono ?_
  rintro e w5 ⟨rfl, hb5⟩
  have HB5 := Lib.hid (below_trans HB4.out hb5)
  clear hb5
  obtain ⟨c0, c1, c2⟩ := Box.new w5 1 (-3) ⟨#[]⟩
  have hz : w5.heap.size < (w5.alloc (.cells #[.int .i64 1, .int .i64 (-3), .string ⟨#[]⟩] 23)).heap.size := by simp
  have HB6 := Lib.hid ((HB5.out.trans ((Below.refl w5.heap.size w5).mono HB5.out.size)).alloc HB5.out.size (.cells #[.int .i64 1, .int .i64 (-3), .string ⟨#[]⟩] 23))
  go_wp2_with fail
  refine (text_any _ _).mono ?_
  rintro e w7 ⟨rfl, hb7⟩
  obtain ⟨c0, c1, c2⟩ := (Box.new w5 1 (-3) ⟨#[]⟩).below hb7 hz
  have HB7 := Lib.hid (below_trans HB6.out hb7)
  clear hb7 hz
  go_wp2_with fail
  refine (HP.out _ (HW.out.below HB7.out)).mono ?_
  rintro e w8 ⟨rfl, hb8⟩
  have hc8 := (show Box w7 w5.heap.size 0 1 (-3) ⟨#[]⟩ from ⟨c0, c1, c2⟩).up hb8
  have HB8 := Lib.hid (below_trans HB7.out hb8)
  clear hb8 c0 c1 c2
  obtain ⟨c0, c1, c2⟩ := hc8
  obtain ⟨g0, g1, g2⟩ := (show Box w8 w5.heap.size 0 1 (-3) ⟨#[]⟩ from ⟨c0, c1, c2⟩).grown
  clear HC HD HP
  go_wp2_with fail
  refine wp_region_quiet_below (by kernel_rfl) (by kernel_rfl) ?_
  repeat (go_big_quiet_step (first | (go_at_call 44; exact Calls.regrown_of (num_any _ _)) | (go_at_call 14; exact Calls.regrown_of (HM.out _))))
  refine wpQuiet_nil ?_
  intro _ hw'
  obtain ⟨p, rfl⟩ := hw'
  go_wp2
  go_ret
  exact ⟨rfl, below_trans HB8.out (below_regrown _ _ _)⟩
end Go.Proofs.YtjfpkjpicalfmaaDoor
