/-
  THE WALK OF ValueMay.
-/
import Derived.Test.YtjfpkjpicalfmaaDoorWalkR
import Derived.Test.YtjfpkjpicalfmaaDoorOpen
namespace Go.Proofs.YtjfpkjpicalfmaaDoor.valueMay
open Go.RowKit Go.Sort
attribute [local go_sem high] run_eq23 run_neq23 run_eq9

set_option maxRecDepth 100000 in
set_option maxHeartbeats 4000000 in
theorem walked (a b : V) (w : World) (ha : VOk a) (hb : VOk b) (hw : Sm w) :
    Calls Tryd.prog 3 #[a.agg, b.agg] w fun e w' => e = .returned (.bool true) ∧ Below w.heap.size w w' := by
  have HC := Lib.hid (compare_any a b ha.s hb.s)
  have HR := Lib.hid (rcompare_any a b ha.s hb.s)
  have HM := Lib.hid (may_any a.k a.n a.s ha.s)
  have HN := Lib.hid (rmay_any a.k a.n a.s ha.s)
  have HT := Lib.hid (fun (w' : World) (h : Below (w.heap.size + 2) (M2 w a b) w') => two_boxes h (Nat.le_refl _))
  have HA := Lib.hid (fun (W : World) (h : Sm W) => awake_any W h)
  generalize cmpV a b = cv at HC HR
  generalize cmpE a b = ce at HC HR
  generalize may a.k a.n a.s = mm at HM HN
  have HW := Lib.hid hw
  clear ha hb hw
  unfold V.agg
  obtain ⟨k, n, s⟩ := a
  obtain ⟨k', n', s'⟩ := b
  simp only at HC HR HM HN HT ⊢
  go_enter Tryd.func3, Tryd.ntmps3
  go_wp2_with fail
  refine (HC.out _).mono ?_
  rintro e w1 ⟨rfl, hb1⟩
  obtain ⟨⟨c0, c1, c2⟩, ⟨d0, d1, d2⟩, hbel, hz⟩ := HT.out w1 (hb1.mono (by simp))
  have HB1 := Lib.hid hb1
  clear hb1 hbel
  go_wp2_with fail
  refine (HR.out _).mono ?_
  rintro e w2 ⟨rfl, hb2⟩
  have hT2 := HT.out w2 ((HB1.out.mono (by simp)).trans (hb2.mono (by omega)))
  clear c0 c1 c2 d0 d1 d2
  obtain ⟨⟨c0, c1, c2⟩, ⟨d0, d1, d2⟩, hbel, hz2⟩ := hT2
  have HB2 := Lib.hid hbel
  have HS := Lib.hid (fun d os => HW.out.below (below_trans hbel (below_regrown w2 d os)))
  obtain ⟨g0, g1, g2⟩ := (show Box w2 w.heap.size 0 k n s from ⟨c0, c1, c2⟩).grown
  clear hb2 hbel HC HR
  go_wp2_with fail
  refine wp_region_quiet_below (by kernel_rfl) (by kernel_rfl) ?_
  repeat (go_big_quiet_step (first | (go_at_call 14; exact Calls.regrown_of (HM.out _)) | (go_at_call 15; exact Calls.regrown_of (HN.out _)) | (go_at_call 16; exact Calls.regrown_of (HA.out _ (HS.out _ _)))))
  refine wpQuiet_nil ?_
  intro _ hw'
  obtain ⟨p, rfl⟩ := hw'
  go_wp2
  go_ret
  exact ⟨rfl, below_trans HB2.out (below_regrown _ _ _)⟩
end Go.Proofs.YtjfpkjpicalfmaaDoor.valueMay
