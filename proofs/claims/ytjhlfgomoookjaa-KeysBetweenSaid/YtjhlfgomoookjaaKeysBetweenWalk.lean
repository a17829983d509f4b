/-
  THE WALK OF KeysBetween.
-/
import Derived.Test.YtjhlfgomoookjaaKit
import Derived.Test.YtjhlfgomoookjaaOpen
namespace Go.Proofs.Ytjhlfgomoookjaa.keysBetween
open Go.RowKit Go.Sort
attribute [local go_sem high] run_eqv run_neqv run_eqs

theorem beyond_bs (l : List Nat) : beyond (bs l) = bs (l ++ [255]) := by
  apply toList_inj
  rw [bs_toList, ByteArray.toList_eq]
  unfold beyond bs
  simp
theorem between_facts {r p : List V} (hr : encE r = 0) (hp : encE p = 0) (nr : ∀ v ∈ r, VOk v) (np : ∀ v ∈ p, VOk v) :
    Op.bytesLess (encS r).toList (endS p false).toList = decide (ordR r p < 0) ∧ Op.bytesLess (encS r).toList (endS p true).toList = (decide (ordR r p < 0) || begR r p) := by
  obtain ⟨mr, sr, _, _⟩ := enc_zero hr
  obtain ⟨mp, sp, _, _⟩ := enc_zero hp
  have e1 : endS p false = encS p := by unfold endS; rw [if_pos hp]; rfl
  have e2 : endS p true = beyond (encS p) := by unfold endS; rw [if_pos hp]; rfl
  rw [e1, e2]
  refine ⟨(order_facts hr hp nr np).1, ?_⟩
  rw [less_cmp, sr, sp, beyond_bs, cmp_keys (key_lt r mr) (by
    intro x hx
    rcases List.mem_append.1 hx with hx | hx
    · exact key_lt p mp x hx
    · simp at hx; omega), key_beyond r p mr mp (ok_n nr) (ok_n np)]
  rcases ordR_bd r p with h | h | h <;> cases hb : begR r p <;> simp [h]

theorem le_true {a b : ByteArray} (h : Op.bytesLess b.toList a.toList = true) : Op.bytesLess a.toList b.toList = false ∧ (a.toList == b.toList) = false := by
  rw [less_cmp] at h ⊢
  have h1 := cmpS_anti a b
  have h2 := cmpS_zero a b
  have h := of_decide_eq_true h
  constructor
  · exact decide_eq_false (by omega)
  · rw [beq_eq_false_iff_ne]
    intro e
    have := h2.2 (toList_inj e)
    omega
theorem le_false {a b : ByteArray} (h : Op.bytesLess b.toList a.toList = false) : (a.toList == b.toList) = !(Op.bytesLess a.toList b.toList) := by
  rw [less_cmp] at h ⊢
  have h1 := cmpS_anti a b
  have h2 := cmpS_zero a b
  have h3 := cmpS_bd a b
  have h := of_decide_eq_false h
  by_cases hz : cmpS a b = 0
  · have e := h2.1 hz
    subst e
    rw [hz]
    simp
  · have : cmpS a b = -1 := by omega
    rw [this]
    have hne : a.toList ≠ b.toList := fun e => hz (h2.2 (toList_inj e))
    simpa using hne

set_option maxRecDepth 100000 in
set_option maxHeartbeats 8000000 in
theorem walked (A : Option Addr) (n c : Nat) (p : List V) (B : Option Addr) (m d : Nat) (r : List V) (w : World) (ha : RowIn w A n c p) (hb : RowIn w B m d r) :
    Calls Try.prog 6 #[.slice A n c, .slice B m d] w fun e w' => e = .returned (.bool true) ∧ Below w.heap.size w w' := by
  have hnp := ha.1.2.1
  have hnr := hb.1.2.1
  have lnp := ha.1.1
  have lnr := hb.1.1
  have HL1 := Lib.hid (fun (W : World) (h : Below w.heap.size w W) => lent_any B m d r W (hb.1.below h) hb.2.2)
  have HL2 := Lib.hid (fun (W : World) (h : Below w.heap.size w W) => lent_any A n c p W (ha.1.below h) ha.2.2)
  have HW := Lib.hid (fun W => awake_any W)
  have HF : Hid (encE r = 0 → encE p = 0 → Op.bytesLess (encS r).toList (endS p false).toList = decide (ordR r p < 0) ∧ Op.bytesLess (encS r).toList (endS p true).toList = (decide (ordR r p < 0) || begR r p)) := fun h1 h2 => between_facts h1 h2 hnr hnp
  have HO := Lib.hid (fun (W : World) (h : Below w.heap.size w W) (h1 : encE r = 0) (h2 : encE p = 0) => orderR_any B m d r A n c p W (hb.1.below h) (ha.1.below h) (enc_zero h1).1 (enc_zero h2).1)
  have HG := Lib.hid (fun (W : World) (h : Below w.heap.size w W) => begins_any B m d r A n c p W (hb.1.below h) (ha.1.below h) hb.2.1)
  have HB0 := Lib.hid (Below.refl w.heap.size w)
  clear ha hb hnp hnr
  go_enter Try.func6, Try.ntmps6
  go_wp2_with fail
  refine (HL1.out _ HB0.out).mono ?_
  rintro e w1 ⟨g1, c1, rfl, hl⟩
  have HE := Lib.hid (encode_any _ _ c1 r _ hl.rv)
  rw [lnr] at HE
  have HB1 := Lib.hid (below_trans HB0.out hl.2.2.2.2.2)
  clear hl HB0
  go_wp2_with fail
  refine HE.out.mono ?_
  rintro e w2 ⟨rfl, hb⟩
  have HB2 := Lib.hid (below_trans HB1.out hb)
  clear hb HE HB1
  go_wp2_with fail
  refine (HL2.out _ HB2.out).mono ?_
  rintro e w3 ⟨g3, c3, rfl, hl⟩
  have HE := Lib.hid (from_any _ _ c3 p true _ hl.rv)
  rw [lnp] at HE
  have HB3 := Lib.hid (below_trans HB2.out hl.2.2.2.2.2)
  clear hl HB2
  go_wp2_with fail
  refine HE.out.mono ?_
  rintro e w4 ⟨rfl, hb⟩
  have HB4 := Lib.hid (below_trans HB3.out hb)
  clear hb HE HB3
  go_wp2_with fail
  refine (HL2.out _ HB4.out).mono ?_
  rintro e w5 ⟨g5, c5, rfl, hl⟩
  have HE := Lib.hid (from_any _ _ c5 p false _ hl.rv)
  rw [lnp] at HE
  have HB5 := Lib.hid (below_trans HB4.out hl.2.2.2.2.2)
  clear hl HB4
  go_wp2_with fail
  refine HE.out.mono ?_
  rintro e w6 ⟨rfl, hb⟩
  have HB6 := Lib.hid (below_trans HB5.out hb)
  clear hb HE HB5
  go_wp2_with fail
  refine (HL2.out _ HB6.out).mono ?_
  rintro e w7 ⟨g7, c7, rfl, hl⟩
  have HE := Lib.hid (to_any _ _ c7 p true _ hl.rv)
  rw [lnp] at HE
  have HB7 := Lib.hid (below_trans HB6.out hl.2.2.2.2.2)
  clear hl HB6
  go_wp2_with fail
  refine HE.out.mono ?_
  rintro e w8 ⟨rfl, hb⟩
  have HB8 := Lib.hid (below_trans HB7.out hb)
  clear hb HE HB7
  go_wp2_with fail
  refine (HL2.out _ HB8.out).mono ?_
  rintro e w9 ⟨g9, c9, rfl, hl⟩
  have HE := Lib.hid (to_any _ _ c9 p false _ hl.rv)
  rw [lnp] at HE
  have HB9 := Lib.hid (below_trans HB8.out hl.2.2.2.2.2)
  clear hl HB8
  go_wp2_with fail
  refine HE.out.mono ?_
  rintro e w10 ⟨rfl, hb⟩
  have HB10 := Lib.hid (below_trans HB9.out hb)
  clear hb HE HB9
  simp only [Bool.not_true, Bool.not_false]
  generalize encS r = K at *
  generalize endS p false = P at *
  generalize endS p true = Q at *
  clear HL1 HL2
  by_cases h1 : encE r = 0
  · by_cases h2 : encE p = 0
    · obtain ⟨f1, f2⟩ := HF.out h1 h2
      have HO := Lib.hid (fun (W : World) (h : Below w.heap.size w W) => HO.out W h h1 h2)
      rw [h1, h2]
      generalize ordR r p = z at *
      generalize begR r p = g at *
      generalize hz : decide (z < 0) = b at *
      clear h1 h2 HF
      cases b <;> cases g
      all_goals simp only [Bool.or_true, Bool.or_false, Bool.true_or, Bool.false_or] at f1 f2
      case' true.true => obtain ⟨l1, l2⟩ := le_true f1; obtain ⟨l3, l4⟩ := le_true f2
      case' true.false => obtain ⟨l1, l2⟩ := le_true f1; obtain ⟨l3, l4⟩ := le_true f2
      case' false.true => have l2 := le_false f1; obtain ⟨l3, l4⟩ := le_true f2; generalize hx : Op.bytesLess P.toList K.toList = x at l2
      case' false.false => have l2 := le_false f1; have l4 := le_false f2; generalize hx : Op.bytesLess P.toList K.toList = x at l2; generalize hy : Op.bytesLess Q.toList K.toList = y at l4
      all_goals
        go_wp2_with fail
        refine (HO.out _ HB10.out).mono ?_
        rintro e v1 ⟨rfl, hb1⟩
        have HC1 := Lib.hid (below_trans HB10.out hb1)
        clear hb1
        go_wp2_with fail
        refine (HG.out _ HC1.out).mono ?_
        rintro e v2 ⟨rfl, hb2⟩
        have HC2 := Lib.hid (below_trans HC1.out hb2)
        clear hb2
        go_wp2_with fail
        refine (HW.out _).mono ?_
        rintro e v3 ⟨rfl, hb3⟩
        have HC3 := Lib.hid (below_trans HC2.out hb3)
        clear hb3
        go_wp2
        go_ret
        exact ⟨rfl, HC3.out⟩
    · rw [h1]
      generalize encE p = y at *
      have hz : (y == 0) = false := by simpa using h2
      clear HF HO h1
      go_wp2_with fail
      refine (HW.out _).mono ?_
      rintro e v3 ⟨rfl, hb3⟩
      have HC3 := Lib.hid (below_trans HB10.out hb3)
      clear hb3
      go_wp2
      go_ret
      exact ⟨rfl, HC3.out⟩
  · generalize encE r = x at *
    have hz : (x == 0) = false := by simpa using h1
    generalize encE p = y at *
    clear HF HO
    go_wp2_with fail
    refine (HW.out _).mono ?_
    rintro e v3 ⟨rfl, hb3⟩
    have HC3 := Lib.hid (below_trans HB10.out hb3)
    clear hb3
    go_wp2
    go_ret
    exact ⟨rfl, HC3.out⟩
end Go.Proofs.Ytjhlfgomoookjaa.keysBetween
