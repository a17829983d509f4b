/-
  THE WALK OF KeysEncode.
-/
import Derived.Test.YtjhlfgomoookjaaKit
import Derived.Test.YtjhlfgomoookjaaOne
import Derived.Test.YtjhlfgomoookjaaOpen
namespace Go.Proofs.Ytjhlfgomoookjaa.keysEncode
open Go.RowKit Go.Sort
attribute [local go_sem high] run_eqv run_neqv run_eqs

theorem lent_below {w w1 w2 : World} {vs : List V} {g c : Nat} (h : Lent w vs g c w1) (hb : Below w1.heap.size w1 w2) : Lent w vs g c w2 := by
  obtain ⟨h1, h2, h3, h4, h5, h6⟩ := h
  exact ⟨h1, h2, h3.below hb, h4, Nat.lt_of_lt_of_le h5 hb.size, below_trans h6 hb⟩
set_option maxRecDepth 100000 in
set_option maxHeartbeats 8000000 in
theorem walked (A : Option Addr) (n c : Nat) (vs : List V) (w : World) (ha : RowIn w A n c vs) :
    Calls Try.prog 3 #[.slice A n c] w fun e w' => e = .returned (.bool true) ∧ Below w.heap.size w w' := by
  have ln := ha.1.1
  have HA := Lib.hid (fun (W : World) (h : Below w.heap.size w W) => ha.1.below h)
  have HR := Lib.hid (fun (W : World) (h : RV W A n vs) => rencode_any A n c vs W h)
  have HW := Lib.hid (fun W => awake_any W)
  have HE0 : Hid (encE vs ≠ 0 → encS vs = ⟨#[]⟩ ∧ endS vs true = ⟨#[]⟩ ∧ endS vs false = ⟨#[]⟩) := fun h => ⟨encS_err h, if_neg h, if_neg h⟩
  have HE1 : Hid (encE vs = 0 → endS vs true = encS vs ++ ⟨#[255]⟩ ∧ endS vs false = encS vs) := fun h => ⟨if_pos h, if_pos h⟩
  have HL1 := Lib.hid (lent_any A n c vs w ha.1 ha.2.2)
  have HZ := Lib.hid (encS_len vs)
  clear ha
  go_enter Try.func3, Try.ntmps3
  go_wp2_with fail
  refine HL1.out.mono ?_
  rintro e w1 ⟨g, c1, rfl, hl⟩
  have HL := Lib.hid (fun (W : World) (h : Below w1.heap.size w1 W) => lent_below hl h)
  have HX := Lib.hid (fun (W : World) (h : Below w1.heap.size w1 W) => ln ▸ (lent_below hl h).rv)
  have HB1 := Lib.hid hl.2.2.2.2.2
  have HD1 := Lib.hid (Below.refl w1.heap.size w1)
  clear hl HL1
  have HC := Lib.hid (HR.out _ (HA.out _ HB1.out))
  go_wp2_with fail
  refine HC.out.mono ?_
  rintro e w2 ⟨rfl, hb⟩
  have HD2 := Lib.hid (below_trans HD1.out hb)
  clear hb HC HR HD1
  have HC := Lib.hid (encode_any _ n c1 vs _ (HX.out _ HD2.out))
  go_wp2_with fail
  refine HC.out.mono ?_
  rintro e w3 ⟨rfl, hb⟩
  have HD3 := Lib.hid (below_trans HD2.out hb)
  clear hb HC HD2
  have HC := Lib.hid (from_any _ n c1 vs true _ (HX.out _ HD3.out))
  go_wp2_with fail
  refine HC.out.mono ?_
  rintro e w4 ⟨rfl, hb⟩
  have HD4 := Lib.hid (below_trans HD3.out hb)
  clear hb HC HD3
  have HC := Lib.hid (from_any _ n c1 vs false _ (HX.out _ HD4.out))
  go_wp2_with fail
  refine HC.out.mono ?_
  rintro e w5 ⟨rfl, hb⟩
  have HD5 := Lib.hid (below_trans HD4.out hb)
  clear hb HC HD4
  have HC := Lib.hid (to_any _ n c1 vs true _ (HX.out _ HD5.out))
  go_wp2_with fail
  refine HC.out.mono ?_
  rintro e w6 ⟨rfl, hb⟩
  have HD6 := Lib.hid (below_trans HD5.out hb)
  clear hb HC HD5
  have HC := Lib.hid (to_any _ n c1 vs false _ (HX.out _ HD6.out))
  go_wp2_with fail
  refine HC.out.mono ?_
  rintro e w7 ⟨rfl, hb⟩
  have HD7 := Lib.hid (below_trans HD6.out hb)
  clear hb HC HD6
  simp only
  have HK := Lib.hid (kept_any g c1 n vs A c w _ (HL.out _ HD7.out) (HA.out _ (below_trans HB1.out HD7.out)))
  have hn : seq ⟨#[]⟩ ⟨#[]⟩ = true := seq_refl _
  by_cases h0 : encE vs = 0
  · obtain ⟨e1, e2⟩ := HE1.out h0
    rw [h0, e1, e2]
    generalize encS vs = S at *
    have hs1 := seq_refl S
    have hs2 := seq_refl (S ++ ⟨#[255]⟩)
    have hz := HZ.out
    clear e1 e2 HE0 HE1 HX HL
    go_wp2_with fail
    refine HK.out.mono ?_
    rintro e v1 ⟨rfl, hb⟩
    have HD8 := Lib.hid (below_trans HD7.out hb)
    clear hb HK
    go_wp2_with fail
    refine (HW.out _).mono ?_
    rintro e v2 ⟨rfl, hb⟩
    have HF := Lib.hid (below_trans HB1.out (below_trans HD8.out hb))
    clear hb
    go_wp2
    go_ret
    exact ⟨rfl, HF.out⟩
  · obtain ⟨e0, e1, e2⟩ := HE0.out h0
    rw [e0, e1, e2]
    generalize encE vs = x at *
    have hz : (x == 0) = false := by simpa using h0
    clear e0 e1 e2 HE0 HE1 HX HL
    go_wp2_with fail
    refine HK.out.mono ?_
    rintro e v1 ⟨rfl, hb⟩
    have HD8 := Lib.hid (below_trans HD7.out hb)
    clear hb HK
    go_wp2_with fail
    refine (HW.out _).mono ?_
    rintro e v2 ⟨rfl, hb⟩
    have HF := Lib.hid (below_trans HB1.out (below_trans HD8.out hb))
    clear hb
    go_wp2
    go_ret
    exact ⟨rfl, HF.out⟩
end Go.Proofs.Ytjhlfgomoookjaa.keysEncode
