/-
  THE WALK OF KeysOrder.
-/
import Derived.Test.YtjhlfgomoookjaaKit
import Derived.Test.YtjhlfgomoookjaaOpen
namespace Go.Proofs.Ytjhlfgomoookjaa.keysOrder
open Go.RowKit Go.Sort
attribute [local go_sem high] run_eqv run_neqv run_eqs

set_option maxRecDepth 100000 in
set_option maxHeartbeats 4000000 in
theorem walked (A : Option Addr) (n c : Nat) (xs : List V) (B : Option Addr) (m d : Nat) (ys : List V) (w : World) (ha : RowIn w A n c xs) (hb : RowIn w B m d ys) :
    Calls Try.prog 5 #[.slice A n c, .slice B m d] w fun e w' => e = .returned (.bool true) ∧ Below w.heap.size w w' := by
  have hnx := ha.1.2.1
  have hny := hb.1.2.1
  have lnx := ha.1.1
  have lny := hb.1.1
  have HA := Lib.hid ha
  have HB := Lib.hid hb
  have HL1 := Lib.hid (lent_any A n c xs w ha.1 ha.2.2)
  have HL2 := Lib.hid (fun (W : World) (h : Below w.heap.size w W) => lent_any B m d ys W (hb.1.below h) hb.2.2)
  have HW := Lib.hid (fun W => awake_any W)
  have HF : Hid (encE xs = 0 → encE ys = 0 → Op.bytesLess (encS xs).toList (encS ys).toList = decide (ordR xs ys < 0) ∧ seq (encS xs) (encS ys) = (ordR xs ys == 0)) := fun h1 h2 => order_facts h1 h2 hnx hny
  have HO := Lib.hid (fun (W : World) (h : Below w.heap.size w W) (h1 : encE xs = 0) (h2 : encE ys = 0) => orderR_any A n c xs B m d ys W (ha.1.below h) (hb.1.below h) (enc_zero h1).1 (enc_zero h2).1)
  clear ha hb hnx hny
  go_enter Try.func5, Try.ntmps5
  go_wp2_with fail
  refine HL1.out.mono ?_
  rintro e w1 ⟨g1, c1, rfl, hl1⟩
  have HE1 := Lib.hid (encode_any _ _ c1 xs _ hl1.rv)
  rw [lnx] at HE1
  have HB1 := Lib.hid hl1.2.2.2.2.2
  clear hl1 HL1
  go_wp2_with fail
  refine HE1.out.mono ?_
  rintro e w2 ⟨rfl, hb2⟩
  have HB2 := Lib.hid (below_trans HB1.out hb2)
  clear hb2 HE1 HB1
  go_wp2_with fail
  refine (HL2.out _ HB2.out).mono ?_
  rintro e w3 ⟨g3, c3, rfl, hl3⟩
  have HE2 := Lib.hid (encode_any _ _ c3 ys _ hl3.rv)
  rw [lny] at HE2
  have HB3 := Lib.hid (below_trans HB2.out hl3.2.2.2.2.2)
  clear hl3 HL2 HB2
  go_wp2_with fail
  refine HE2.out.mono ?_
  rintro e w4 ⟨rfl, hb4⟩
  have HB4 := Lib.hid (below_trans HB3.out hb4)
  clear hb4 HE2 HB3
  generalize encS xs = S at *
  generalize encS ys = T at *
  by_cases h1 : encE xs = 0
  · by_cases h2 : encE ys = 0
    · obtain ⟨f1, f2⟩ := HF.out h1 h2
      have HO := Lib.hid (fun (W : World) (h : Below w.heap.size w W) => HO.out W h h1 h2)
      rw [h1, h2]
      generalize ordR xs ys = z at *
      generalize hb1 : decide (z < 0) = b1 at *
      generalize hb2 : (z == 0) = b2 at *
      clear h1 h2 HF
      go_wp2_with fail
      refine (HO.out _ HB4.out).mono ?_
      rintro e w5 ⟨rfl, hb5⟩
      have HB5 := Lib.hid (below_trans HB4.out hb5)
      clear hb5 HO HB4
      go_wp2_with fail
      refine (HW.out _).mono ?_
      rintro e w6 ⟨rfl, hb6⟩
      have HB6 := Lib.hid (below_trans HB5.out hb6)
      clear hb6
      go_wp2
      go_ret
      exact ⟨rfl, HB6.out⟩
    · rw [h1]
      generalize encE ys = y at *
      have hz : (y == 0) = false := by simpa using h2
      clear HF HO h1
      go_wp2_with fail
      refine (HW.out _).mono ?_
      rintro e w6 ⟨rfl, hb6⟩
      have HB6 := Lib.hid (below_trans HB4.out hb6)
      clear hb6
      go_wp2
      go_ret
      exact ⟨rfl, HB6.out⟩
  · generalize encE xs = x at *
    have hz : (x == 0) = false := by simpa using h1
    generalize encE ys = y at *
    clear HF HO
    go_wp2_with fail
    refine (HW.out _).mono ?_
    rintro e w6 ⟨rfl, hb6⟩
    have HB6 := Lib.hid (below_trans HB4.out hb6)
    clear hb6
    go_wp2
    go_ret
    exact ⟨rfl, HB6.out⟩
end Go.Proofs.Ytjhlfgomoookjaa.keysOrder
