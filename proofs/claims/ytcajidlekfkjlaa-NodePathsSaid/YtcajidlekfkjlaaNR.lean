/-
STAGE 8: span.has; what Check asks of a leaf that is the root.
-/
import Derived.Test.YtcajidlekfkjlaaNQ
namespace Go.Proofs.Ytcajidlekfkjlaa
open Go.RowKit

set_option maxRecDepth 100000 in
theorem cmp_lt : ∀ a b : List UInt8, decide (Lib.compareBytes a b < 0) = Op.bytesLess a b := by
  intro a b
  have h := cmp_ge a b
  have : decide (Lib.compareBytes a b < 0) = !decide (Lib.compareBytes a b ≥ 0) := by
    by_cases h1 : Lib.compareBytes a b < 0
    · rw [decide_eq_true h1, decide_eq_false (by omega)]; rfl
    · rw [decide_eq_false h1, decide_eq_true (by omega)]; rfl
  rw [this, h, Bool.not_not]
set_option maxRecDepth 100000 in
theorem cmpN_lt (a b : List Nat) : decide (cmpN a b < 0) = ltb a b := cmp_lt _ _
set_option maxHeartbeats 2000000 in
set_option maxRecDepth 100000 in
theorem has_any {Tf Tt Tx : Nat → Prop} (fA tA xA : Option Addr) (fn fc tn tc xn xc : Nat) (f t x : List Nat) (w : World) (hf : RB w Tf fA fn f) (ht : RB w Tt tA tn t) (hx : RB w Tx xA xn x) :
    Calls Try.prog 58 #[.agg #[.slice fA fn fc, .slice tA tn tc], .slice xA xn xc] w fun e w' => e = .returned (.bool (lies f t x)) ∧ Below w.heap.size w w' := by
  obtain ⟨W, hW⟩ : ∃ W, W = w.alloc (.cells #[.slice fA fn fc, .slice tA tn tc] 80) := ⟨_, rfl⟩
  have hb : Below w.heap.size w W := by rw [hW]; exact (Below.refl _ _).alloc (Nat.le_refl _) _
  have hcm1 := compare_any xA xn xc x fA fn fc f W (hx.keep (Fr.of_below hb No) fun _ _ hn => hn) (hf.keep (Fr.of_below hb No) fun _ _ hn => hn)
  have hcm2 := compare_any xA xn xc x tA tn tc t W (hx.keep (Fr.of_below hb No) fun _ _ hn => hn) (ht.keep (Fr.of_below hb No) fun _ _ hn => hn)
  have htl := ht.len
  have hge := cmpN_ge x f
  have hlt := cmpN_lt x t
  obtain ⟨c1, hc1⟩ : ∃ c1, c1 = cmpN x f := ⟨_, rfl⟩
  obtain ⟨c2, hc2⟩ : ∃ c2, c2 = cmpN x t := ⟨_, rfl⟩
  rw [← hc1] at hcm1 hge
  rw [← hc2] at hcm2 hlt
  rw [hW] at hcm1 hcm2
  have H1 := Lib.hid hcm1
  have H2 := Lib.hid hcm2
  have HB := Lib.hid hb
  have HW := Lib.hid hW
  unfold lies
  rw [htl, ← hge, ← hlt]
  clear hcm1 hcm2 hb hW hge hlt htl hc1 hc2 hf ht hx
  by_cases h1 : c1 ≥ 0
  · have d1 : decide (c1 ≥ 0) = true := decide_eq_true h1
    have d1' : decide (0 ≤ c1) = true := decide_eq_true h1
    rw [d1, Bool.true_and]
    by_cases h2 : tn = 0
    · have d2 : ((tn : Int) == 0) = true := by rw [h2]; rfl
      have d2b : decide (tn = 0) = true := decide_eq_true h2
      rw [d2b, Bool.true_or]
      clear h1 h2 d2b
      go_enter Try.func58, Try.ntmps58
      go_wp2_with fail
      refine H1.out.mono ?_
      rintro e w1 ⟨rfl, rfl⟩
      go_wp2_with fail
      go_ret
      exact ⟨rfl, HW.out ▸ HB.out⟩
    · have d2 : ((tn : Int) == 0) = false := beq_false_of_ne (by omega)
      have d2b : decide (tn = 0) = false := decide_eq_false h2
      rw [d2b, Bool.false_or]
      clear h1 h2 d2b
      go_enter Try.func58, Try.ntmps58
      go_wp2_with fail
      refine H1.out.mono ?_
      rintro e w1 ⟨rfl, rfl⟩
      go_wp2_with fail
      refine H2.out.mono ?_
      rintro e w1 ⟨rfl, rfl⟩
      go_wp2_with fail
      go_ret
      exact ⟨rfl, HW.out ▸ HB.out⟩
  · have d1 : decide (c1 ≥ 0) = false := decide_eq_false h1
    have d1' : decide (0 ≤ c1) = false := decide_eq_false h1
    rw [d1, Bool.false_and]
    clear h1
    go_enter Try.func58, Try.ntmps58
    go_wp2_with fail
    refine H1.out.mono ?_
    rintro e w1 ⟨rfl, rfl⟩
    go_wp2_with fail
    go_ret
    exact ⟨rfl, HW.out ▸ HB.out⟩
end Go.Proofs.Ytcajidlekfkjlaa
