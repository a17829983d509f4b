/-
UM WalkL UQ UA UW
-/
import Derived.Test.YtdhgbkibbileiaaGreatTB
import Derived.Test.YtdhgbkibbileiaaGreatSM
import Derived.Test.YtdhgbkibbileiaaGreatWalkG
import Derived.Test.YtdhgbkibbileiaaGreatPR
import Derived.Deep.MidRow
namespace Go.Proofs.YtdhgbkibbileiaaGreat
open Go.RowKit
def dN (ok : Bool) (l : List Nat) : Nat × Bool × List Nat := (n32 (rI ok l).1, (rI ok l).2.1 && decide ((rI ok l).1 ≤ 4294967295), (rI ok l).2.2)
def dM (ok : Bool) (l : List Nat) : Nat × Bool × List Nat := if (rI ok l).2.2.length < (rI ok l).1 then (0, false, (rI ok l).2.2) else rI ok l
theorem dN_le (ok : Bool) (l : List Nat) : (dN ok l).2.2.length ≤ l.length := rI_le ok l
theorem dN_ok' (ok : Bool) (l : List Nat) (h : (dN ok l).2.1 = true) : (rI ok l).2.1 = true := by
 unfold dN at h
 simp only [Bool.and_eq_true] at h
 exact h.1
theorem dN_less (ok : Bool) (l : List Nat) (h : (dN ok l).2.1 = true) : (dN ok l).2.2.length < l.length := rI_less ok l (dN_ok' ok l h)
theorem dN_ok (ok : Bool) (l : List Nat) (h : (dN ok l).2.1 = true) : ok = true := rI_ok ok l (dN_ok' ok l h)
theorem dN_lt (ok : Bool) (l : List Nat) : (dN ok l).1 < 4294967296 := n32_lt _
theorem dM_le (ok : Bool) (l : List Nat) : (dM ok l).2.2.length ≤ l.length := by
 have := rI_le ok l
 unfold dM
 split
 ·exact this
 ·exact this
theorem dM_ok' (ok : Bool) (l : List Nat) (h : (dM ok l).2.1 = true) : (rI ok l).2.1 = true ∧ (dM ok l).2.2 = (rI ok l).2.2 := by
 unfold dM at h ⊢
 by_cases hc : (rI ok l).2.2.length < (rI ok l).1
 ·rw [if_pos hc] at h; cases h
 ·rw [if_neg hc] at h ⊢; exact ⟨h, rfl⟩
theorem dM_less (ok : Bool) (l : List Nat) (h : (dM ok l).2.1 = true) : (dM ok l).2.2.length < l.length := by
 obtain ⟨h1, h2⟩ := dM_ok' ok l h
 rw [h2]
 exact rI_less ok l h1
theorem dM_ok (ok : Bool) (l : List Nat) (h : (dM ok l).2.1 = true) : ok = true := rI_ok ok l (dM_ok' ok l h).1
theorem dM_few (ok : Bool) (l : List Nat) : (dM ok l).1 ≤ (dM ok l).2.2.length := by
 unfold dM
 by_cases hc : (rI ok l).2.2.length < (rI ok l).1
 ·rw [if_pos hc]; exact Nat.zero_le _
 ·rw [if_neg hc]; exact Nat.le_of_not_lt hc
theorem dN_vi (x : Nat) (hx : x < 4294967296) (r : List Nat) : dN true (Cd.vi x ++ r) = (x, true, r) := by
 unfold dN
 rw [rI_vi x (by omega) r]
 simp only [n32_small hx, Bool.true_and, decide_eq_true (show x ≤ 4294967295 by omega)]
theorem dM_vi (x : Nat) (hx : x < 18446744073709551616) (r : List Nat) (h : x ≤ r.length) : dM true (Cd.vi x ++ r) = (x, true, r) := by
 unfold dM
 rw [rI_vi x hx r]
 rw [if_neg (by simp only; omega)]
def dC (ok : Bool) (l : List Nat) : CE × Bool × List Nat :=
 if (dM ok l).1 = 0 then (cz, (dM ok l).2) else
 (⟨true, (dN (dM ok l).2.1 (dM ok l).2.2).1, (rR (dN (dM ok l).2.1 (dM ok l).2.2).2.1 (dN (dM ok l).2.1 (dM ok l).2.2).2.2 ((dM ok l).1 : Nat)).1⟩, (rR (dN (dM ok l).2.1 (dM ok l).2.2).2.1 (dN (dM ok l).2.1 (dM ok l).2.2).2.2 ((dM ok l).1 : Nat)).2)
theorem dC_zero (ok : Bool) (l : List Nat) (h : (dM ok l).1 = 0) : dC ok l = (cz, (dM ok l).2) := by simp only [dC, h, if_true]
theorem dC_pos (ok : Bool) (l : List Nat) (h : (dM ok l).1 ≠ 0) : dC ok l = (⟨true, (dN (dM ok l).2.1 (dM ok l).2.2).1, (rR (dN (dM ok l).2.1 (dM ok l).2.2).2.1 (dN (dM ok l).2.1 (dM ok l).2.2).2.2 ((dM ok l).1 : Nat)).1⟩, (rR (dN (dM ok l).2.1 (dM ok l).2.2).2.1 (dN (dM ok l).2.1 (dM ok l).2.2).2.2 ((dM ok l).1 : Nat)).2) := by simp only [dC, if_neg h]
theorem dC_less (ok : Bool) (l : List Nat) (h : (dC ok l).2.1 = true) : (dC ok l).2.2.length < l.length := by
 by_cases h0 : (dM ok l).1 = 0
 ·rw [dC_zero ok l h0] at h ⊢
  exact dM_less ok l h
 ·rw [dC_pos ok l h0] at h ⊢
  have k2 := rR_ok _ _ _ h
  have l2 := rR_le (dN (dM ok l).2.1 (dM ok l).2.2).2.1 (dN (dM ok l).2.1 (dM ok l).2.2).2.2 ((dM ok l).1 : Nat)
  have l1 := dN_less _ _ k2
  have l0 := dM_less _ _ (dN_ok _ _ k2)
  simp only
  omega
theorem dC_le (ok : Bool) (l : List Nat) : (dC ok l).2.2.length ≤ l.length := by
 by_cases h0 : (dM ok l).1 = 0
 ·rw [dC_zero ok l h0]
  exact dM_le ok l
 ·rw [dC_pos ok l h0]
  have l2 := rR_le (dN (dM ok l).2.1 (dM ok l).2.2).2.1 (dN (dM ok l).2.1 (dM ok l).2.2).2.2 ((dM ok l).1 : Nat)
  have l1 := dN_le (dM ok l).2.1 (dM ok l).2.2
  have l0 := dM_le ok l
  simp only
  omega
theorem dC_sum (ok : Bool) (l : List Nat) : (dC ok l).1.d.length + (dC ok l).2.2.length ≤ l.length := by
 by_cases h0 : (dM ok l).1 = 0
 ·rw [dC_zero ok l h0]
  have := dM_le ok l
  simpa [cz] using this
 ·rw [dC_pos ok l h0]
  have h1 := rR_sum (dN (dM ok l).2.1 (dM ok l).2.2).2.1 (dN (dM ok l).2.1 (dM ok l).2.2).2.2 ((dM ok l).1 : Nat)
  have h2 := dN_le (dM ok l).2.1 (dM ok l).2.2
  have h3 := dM_le ok l
  simp only
  omega
theorem dC_k (ok : Bool) (l : List Nat) : (dC ok l).1.k < 4294967296 := by
 by_cases h0 : (dM ok l).1 = 0
 ·rw [dC_zero ok l h0]; simp [cz]
 ·rw [dC_pos ok l h0]; exact dN_lt _ _
theorem dC_enc (ok : Bool) (l : List Nat) (hl : l.length ≤ 20000) : (encC (dC ok l).1).length + (dC ok l).2.2.length ≤ l.length + 20 := by
 have h1 := dC_sum ok l
 have h2 := vi_len (dC ok l).1.d.length (by omega)
 have h3 := vi_len (dC ok l).1.k (by have := dC_k ok l; omega)
 unfold encC
 split
 ·rw [List.length_append, List.length_append]; omega
 ·rw [List.length_append]; simp; omega
def dLC : Nat → Bool → List Nat → List CE × Bool × List Nat
 | 0, ok, l => ([], ok, l)
 | n + 1, ok, l => if ok then ((dC ok l).1 :: (dLC n (dC ok l).2.1 (dC ok l).2.2).1, (dLC n (dC ok l).2.1 (dC ok l).2.2).2) else ([], ok, l)
theorem dLC_no (n : Nat) (l : List Nat) : dLC n false l = ([], false, l) := by cases n <;> simp [dLC]
def dLCs (ok : Bool) (l : List Nat) : List CE × Bool × List Nat := dLC (dM ok l).1 (dM ok l).2.1 (dM ok l).2.2
theorem dLC_le (n : Nat) (ok : Bool) (l : List Nat) : (dLC n ok l).2.2.length ≤ l.length := by
 induction n generalizing ok l with
 | zero => exact Nat.le_refl _
 | succ n ih =>
   cases ok with
   | false => rw [dLC_no]; exact Nat.le_refl _
   | true =>
     have h1 := ih (dC true l).2.1 (dC true l).2.2
     have h2 := dC_le true l
     simp only [dLC, if_true]
     omega
theorem dLCs_le (ok : Bool) (l : List Nat) : (dLCs ok l).2.2.length ≤ l.length := Nat.le_trans (dLC_le _ _ _) (dM_le ok l)
theorem dLC_ok (n : Nat) (ok : Bool) (l : List Nat) (h : (dLC n ok l).2.1 = true) : ok = true := by
 cases ok with
 | false => rw [dLC_no] at h; exact h
 | true => rfl
theorem dLC_sum (n : Nat) (ok : Bool) (l : List Nat) (hl : l.length ≤ 20000) : (dLC n ok l).1.length + (dLC n ok l).2.2.length ≤ l.length + 1 ∧ ((dLC n ok l).1.flatMap encC).length + (dLC n ok l).2.2.length ≤ l.length + 20 * (dLC n ok l).1.length ∧ ∀ y ∈ (dLC n ok l).1, y.d.length ≤ 20000 := by
 induction n generalizing ok l with
 | zero => simp [dLC]
 | succ n ih =>
   cases ok with
   | false => rw [dLC_no]; simp
   | true =>
     have hle := dC_le true l
     obtain ⟨h1, h2, h3⟩ := ih (dC true l).2.1 (dC true l).2.2 (by omega)
     have h4 := dC_enc true l hl
     have h5 := dC_less true l
     have h6 := dC_sum true l
     simp only [dLC, if_true, List.length_cons, List.flatMap_cons, List.length_append, List.mem_cons]
     refine ⟨?_, by omega, fun y hy => ?_⟩
     ·cases hb : (dC true l).2.1 with
      | true => have := h5 hb; rw [hb] at h1; omega
      | false => rw [hb, dLC_no] at h1; rw [dLC_no]; simp at h1 ⊢; omega
     ·rcases hy with rfl | hy
      ·omega
      ·exact h3 y hy
theorem dLCs_sum (ok : Bool) (l : List Nat) (hl : l.length ≤ 20000) : (dLCs ok l).1.length + (dLCs ok l).2.2.length ≤ l.length + 1 ∧ ((dLCs ok l).1.flatMap encC).length + (dLCs ok l).2.2.length ≤ l.length + 20 * (dLCs ok l).1.length ∧ ∀ y ∈ (dLCs ok l).1, y.d.length ≤ 20000 := by
 have h1 := dM_le ok l
 obtain ⟨h2, h3, h4⟩ := dLC_sum (dM ok l).1 (dM ok l).2.1 (dM ok l).2.2 (by omega)
 unfold dLCs
 exact ⟨by omega, by omega, h4⟩
def dJ (ok : Bool) (l : List Nat) : IE × Bool × List Nat :=
 let a := dN ok l
 let b := rB a.2.1 a.2.2
 let c := dN b.2.1 b.2.2
 let d := dLCs c.2.1 c.2.2
 (⟨a.1, i64n b.1, 0, c.1, d.1⟩, d.2)
theorem dJ_le (ok : Bool) (l : List Nat) : (dJ ok l).2.2.length ≤ l.length := by
 have h1 := dN_le ok l
 have h2 := rB_le (dN ok l).2.1 (dN ok l).2.2
 have h3 := dN_le (rB (dN ok l).2.1 (dN ok l).2.2).2.1 (rB (dN ok l).2.1 (dN ok l).2.2).2.2
 have h4 := dLCs_le (dN (rB (dN ok l).2.1 (dN ok l).2.2).2.1 (rB (dN ok l).2.1 (dN ok l).2.2).2.2).2.1 (dN (rB (dN ok l).2.1 (dN ok l).2.2).2.1 (rB (dN ok l).2.1 (dN ok l).2.2).2.2).2.2
 show (dLCs (dN (rB (dN ok l).2.1 (dN ok l).2.2).2.1 (rB (dN ok l).2.1 (dN ok l).2.2).2.2).2.1 (dN (rB (dN ok l).2.1 (dN ok l).2.2).2.1 (rB (dN ok l).2.1 (dN ok l).2.2).2.2).2.2).2.2.length ≤ _
 omega
theorem dJ_less (ok : Bool) (l : List Nat) (h : (dJ ok l).2.1 = true) : (dJ ok l).2.2.length < l.length := by
 have k4 : (dLCs (dN (rB (dN ok l).2.1 (dN ok l).2.2).2.1 (rB (dN ok l).2.1 (dN ok l).2.2).2.2).2.1 (dN (rB (dN ok l).2.1 (dN ok l).2.2).2.1 (rB (dN ok l).2.1 (dN ok l).2.2).2.2).2.2).2.1 = true := h
 have k3 := dM_ok _ _ (dLC_ok _ _ _ k4)
 have k2 := dN_ok _ _ k3
 have k1 := rB_ok _ _ k2
 have h1 := dN_less ok l k1
 have h2 := rB_le (dN ok l).2.1 (dN ok l).2.2
 have h3 := dN_le (rB (dN ok l).2.1 (dN ok l).2.2).2.1 (rB (dN ok l).2.1 (dN ok l).2.2).2.2
 have h4 := dLCs_le (dN (rB (dN ok l).2.1 (dN ok l).2.2).2.1 (rB (dN ok l).2.1 (dN ok l).2.2).2.2).2.1 (dN (rB (dN ok l).2.1 (dN ok l).2.2).2.1 (rB (dN ok l).2.1 (dN ok l).2.2).2.2).2.2
 show (dLCs (dN (rB (dN ok l).2.1 (dN ok l).2.2).2.1 (rB (dN ok l).2.1 (dN ok l).2.2).2.2).2.1 (dN (rB (dN ok l).2.1 (dN ok l).2.2).2.1 (rB (dN ok l).2.1 (dN ok l).2.2).2.2).2.2).2.2.length < _
 omega
def dLJ : Nat → Bool → List Nat → List IE × Bool × List Nat
 | 0, ok, l => ([], ok, l)
 | n + 1, ok, l => if ok then ((dJ ok l).1 :: (dLJ n (dJ ok l).2.1 (dJ ok l).2.2).1, (dLJ n (dJ ok l).2.1 (dJ ok l).2.2).2) else ([], ok, l)
theorem dLJ_no (n : Nat) (l : List Nat) : dLJ n false l = ([], false, l) := by cases n <;> simp [dLJ]
def dLJs (ok : Bool) (l : List Nat) : List IE × Bool × List Nat := dLJ (dM ok l).1 (dM ok l).2.1 (dM ok l).2.2
theorem dJ_sum (ok : Bool) (l : List Nat) (hl : l.length ≤ 20000) : (dJ ok l).1.es.length ≤ 20001 ∧ (∀ y ∈ (dJ ok l).1.es, y.d.length ≤ 20001) ∧ ((dJ ok l).1.es.flatMap encC).length ≤ 190000000 ∧ (encIE (dJ ok l).1).length + 21 * (dJ ok l).2.2.length ≤ 21 * l.length + 51 := by
 obtain ⟨a, ha⟩ : ∃ a, a = dN ok l := ⟨_, rfl⟩
 obtain ⟨b, hb⟩ : ∃ b, b = rB a.2.1 a.2.2 := ⟨_, rfl⟩
 obtain ⟨c, hc⟩ : ∃ c, c = dN b.2.1 b.2.2 := ⟨_, rfl⟩
 obtain ⟨d, hd⟩ : ∃ d, d = dLCs c.2.1 c.2.2 := ⟨_, rfl⟩
 have e : dJ ok l = (⟨a.1, i64n b.1, 0, c.1, d.1⟩, d.2) := by unfold dJ; rw [hd, hc, hb, ha]
 have l1 := dN_le ok l
 have l2 := rB_le a.2.1 a.2.2
 have l3 := dN_le b.2.1 b.2.2
 rw [← ha] at l1
 rw [← hb] at l2
 rw [← hc] at l3
 obtain ⟨h1, h2, h3⟩ := dLCs_sum c.2.1 c.2.2 (by omega)
 rw [← hd] at h1 h2 h3
 rw [e]
 refine ⟨by show d.1.length ≤ _; omega, fun y hy => Nat.le_trans (h3 y hy) (by decide), by show (d.1.flatMap encC).length ≤ _; omega, ?_⟩
 have v1 := vi_len a.1 (by have := dN_lt ok l; rw [← ha] at this; omega)
 have v2 := vi_len c.1 (by have := dN_lt b.2.1 b.2.2; rw [← hc] at this; omega)
 have v3 := vi_len d.1.length (by omega)
 unfold encIE encP encL
 simp only [List.length_append, Cd.fixB_len]
 omega
theorem dLJ_sum (n : Nat) (ok : Bool) (l : List Nat) (hl : l.length ≤ 20000) : (dLJ n ok l).1.length + (dLJ n ok l).2.2.length ≤ l.length + 1 ∧ ((dLJ n ok l).1.flatMap encIE).length + 21 * (dLJ n ok l).2.2.length ≤ 21 * l.length + 51 * (dLJ n ok l).1.length ∧ ∀ x ∈ (dLJ n ok l).1, x.es.length ≤ 20001 ∧ (∀ y ∈ x.es, y.d.length ≤ 20001) ∧ (x.es.flatMap encC).length ≤ 190000000 := by
 induction n generalizing ok l with
 | zero => simp [dLJ]
 | succ n ih =>
   cases ok with
   | false => rw [dLJ_no]; simp
   | true =>
     have hle := dJ_le true l
     obtain ⟨h1, h2, h3⟩ := ih (dJ true l).2.1 (dJ true l).2.2 (by omega)
     obtain ⟨k1, k2, k3, h4⟩ := dJ_sum true l hl
     have h5 := dJ_less true l
     simp only [dLJ, if_true, List.length_cons, List.flatMap_cons, List.length_append, List.mem_cons]
     refine ⟨?_, by omega, fun y hy => ?_⟩
     ·cases hb : (dJ true l).2.1 with
      | true => have := h5 hb; rw [hb] at h1; omega
      | false => rw [hb, dLJ_no] at h1; rw [dLJ_no]; simp at h1 ⊢; omega
     ·rcases hy with rfl | hy
      ·exact ⟨k1, k2, k3⟩
      ·exact h3 y hy
def dD (ok : Bool) (l : List Nat) : DV × Bool × List Nat :=
 let a := dN ok l
 let b := rI a.2.1 a.2.2
 (⟨a.1, b.1⟩, b.2)
def dV (ok : Bool) (l : List Nat) : LV × Bool × List Nat :=
 let a := dN ok l
 let b := rI a.2.1 a.2.2
 let c := rI b.2.1 b.2.2
 let d := rB c.2.1 c.2.2
 (⟨a.1, b.1, c.1, decide (d.1 = 1)⟩, d.2)
theorem dD_le (ok : Bool) (l : List Nat) : (dD ok l).2.2.length ≤ l.length := by
 have h1 := dN_le ok l
 have h2 := rI_le (dN ok l).2.1 (dN ok l).2.2
 show (rI (dN ok l).2.1 (dN ok l).2.2).2.2.length ≤ _
 omega
theorem dD_less (ok : Bool) (l : List Nat) (h : (dD ok l).2.1 = true) : (dD ok l).2.2.length < l.length := by
 have k : (rI (dN ok l).2.1 (dN ok l).2.2).2.1 = true := h
 have h1 := dN_less ok l (rI_ok _ _ k)
 have h2 := rI_le (dN ok l).2.1 (dN ok l).2.2
 show (rI (dN ok l).2.1 (dN ok l).2.2).2.2.length < _
 omega
theorem dV_le (ok : Bool) (l : List Nat) : (dV ok l).2.2.length ≤ l.length := by
 have h1 := dN_le ok l
 have h2 := rI_le (dN ok l).2.1 (dN ok l).2.2
 have h3 := rI_le (rI (dN ok l).2.1 (dN ok l).2.2).2.1 (rI (dN ok l).2.1 (dN ok l).2.2).2.2
 have h4 := rB_le (rI (rI (dN ok l).2.1 (dN ok l).2.2).2.1 (rI (dN ok l).2.1 (dN ok l).2.2).2.2).2.1 (rI (rI (dN ok l).2.1 (dN ok l).2.2).2.1 (rI (dN ok l).2.1 (dN ok l).2.2).2.2).2.2
 show (rB (rI (rI (dN ok l).2.1 (dN ok l).2.2).2.1 (rI (dN ok l).2.1 (dN ok l).2.2).2.2).2.1 (rI (rI (dN ok l).2.1 (dN ok l).2.2).2.1 (rI (dN ok l).2.1 (dN ok l).2.2).2.2).2.2).2.2.length ≤ _
 omega
theorem dV_less (ok : Bool) (l : List Nat) (h : (dV ok l).2.1 = true) : (dV ok l).2.2.length < l.length := by
 have k : (rB (rI (rI (dN ok l).2.1 (dN ok l).2.2).2.1 (rI (dN ok l).2.1 (dN ok l).2.2).2.2).2.1 (rI (rI (dN ok l).2.1 (dN ok l).2.2).2.1 (rI (dN ok l).2.1 (dN ok l).2.2).2.2).2.2).2.1 = true := h
 have h1 := dN_less ok l (rI_ok _ _ (rI_ok _ _ (rB_ok _ _ k)))
 have h2 := rI_le (dN ok l).2.1 (dN ok l).2.2
 have h3 := rI_le (rI (dN ok l).2.1 (dN ok l).2.2).2.1 (rI (dN ok l).2.1 (dN ok l).2.2).2.2
 have h4 := rB_le (rI (rI (dN ok l).2.1 (dN ok l).2.2).2.1 (rI (dN ok l).2.1 (dN ok l).2.2).2.2).2.1 (rI (rI (dN ok l).2.1 (dN ok l).2.2).2.1 (rI (dN ok l).2.1 (dN ok l).2.2).2.2).2.2
 show (rB (rI (rI (dN ok l).2.1 (dN ok l).2.2).2.1 (rI (dN ok l).2.1 (dN ok l).2.2).2.2).2.1 (rI (rI (dN ok l).2.1 (dN ok l).2.2).2.1 (rI (dN ok l).2.1 (dN ok l).2.2).2.2).2.2).2.2.length < _
 omega
def dLD : Nat → Bool → List Nat → List DV × Bool × List Nat
 | 0, ok, l => ([], ok, l)
 | n + 1, ok, l => if ok then ((dD ok l).1 :: (dLD n (dD ok l).2.1 (dD ok l).2.2).1, (dLD n (dD ok l).2.1 (dD ok l).2.2).2) else ([], ok, l)
theorem dLD_no (n : Nat) (l : List Nat) : dLD n false l = ([], false, l) := by cases n <;> simp [dLD]
def dLV : Nat → Bool → List Nat → List LV × Bool × List Nat
 | 0, ok, l => ([], ok, l)
 | n + 1, ok, l => if ok then ((dV ok l).1 :: (dLV n (dV ok l).2.1 (dV ok l).2.2).1, (dLV n (dV ok l).2.1 (dV ok l).2.2).2) else ([], ok, l)
theorem dLV_no (n : Nat) (l : List Nat) : dLV n false l = ([], false, l) := by cases n <;> simp [dLV]
def dLVs (ok : Bool) (l : List Nat) : List LV × Bool × List Nat := dLV (dM ok l).1 (dM ok l).2.1 (dM ok l).2.2
def dLDs (ok : Bool) (l : List Nat) : List DV × Bool × List Nat := dLD (dM ok l).1 (dM ok l).2.1 (dM ok l).2.2
theorem dLV_le (n : Nat) (ok : Bool) (l : List Nat) : (dLV n ok l).2.2.length ≤ l.length := by
 induction n generalizing ok l with
 | zero => exact Nat.le_refl _
 | succ n ih =>
   cases ok with
   | false => rw [dLV_no]; exact Nat.le_refl _
   | true =>
     have h1 := ih (dV true l).2.1 (dV true l).2.2
     have h2 := dV_le true l
     simp only [dLV, if_true]
     omega
theorem dLV_sum (n : Nat) (ok : Bool) (l : List Nat) : (dLV n ok l).1.length + (dLV n ok l).2.2.length ≤ l.length + 1 := by
 induction n generalizing ok l with
 | zero => simp [dLV]
 | succ n ih =>
   cases ok with
   | false => rw [dLV_no]; simp
   | true =>
     have hle := dV_le true l
     have h1 := ih (dV true l).2.1 (dV true l).2.2
     have h5 := dV_less true l
     simp only [dLV, if_true, List.length_cons]
     cases hb : (dV true l).2.1 with
     | true => have := h5 hb; rw [hb] at h1; omega
     | false => rw [hb, dLV_no] at h1; rw [dLV_no]; simp at h1 ⊢; omega
theorem dLD_sum (n : Nat) (ok : Bool) (l : List Nat) : (dLD n ok l).1.length + (dLD n ok l).2.2.length ≤ l.length + 1 := by
 induction n generalizing ok l with
 | zero => simp [dLD]
 | succ n ih =>
   cases ok with
   | false => rw [dLD_no]; simp
   | true =>
     have hle := dD_le true l
     have h1 := ih (dD true l).2.1 (dD true l).2.2
     have h5 := dD_less true l
     simp only [dLD, if_true, List.length_cons]
     cases hb : (dD true l).2.1 with
     | true => have := h5 hb; rw [hb] at h1; omega
     | false => rw [hb, dLD_no] at h1; rw [dLD_no]; simp at h1 ⊢; omega
def dO (ok : Bool) (l : List Nat) : ON × Bool × List Nat :=
 let a := rB ok l
 let b := dN a.2.1 a.2.2
 let c := dN b.2.1 b.2.2
 let d := rT c.2.1 c.2.2
 (⟨i64n a.1, (b.1 : Int), c.1, d.1⟩, d.2)
def dA (k : Int) (ok : Bool) (l : List Nat) : Nat × Bool × List Nat := if k = 1 then (0, ok, l) else rI ok l
def dB (k : Int) (ok : Bool) (l : List Nat) : Nat × Bool × List Nat := if k = 3 then rI ok l else (0, ok, l)
def dR (k : Int) (ok : Bool) (l : List Nat) : RE × Bool × List Nat :=
 if k = 4 then
  (⟨k, 0, 0, 0, 0, 0, 0, ⟨0, 0, 0, []⟩, (dLJs ok l).1, [], [], 0⟩, (dLJs ok l).2)
 else if k = 8 then
  let a := dLVs ok l
  let b := dLDs a.2.1 a.2.2
  let c := dN b.2.1 b.2.2
  (⟨k, 0, 0, 0, 0, 0, 0, ⟨0, 0, 0, []⟩, [], a.1, b.1, c.1⟩, c.2)
 else
  let t := dN ok l
  let a := dA k t.2.1 t.2.2
  let b := dB k a.2.1 a.2.2
  if k = 2 ∨ k = 3 then
   let p := dN b.2.1 b.2.2
   let q := dN p.2.1 p.2.2
   let o := dO q.2.1 q.2.2
   (⟨k, 0, t.1, a.1, b.1, p.1, q.1, o.1, [], [], [], 0⟩, o.2)
  else (⟨k, 0, t.1, a.1, b.1, 0, 0, ⟨0, 0, 0, []⟩, [], [], [], 0⟩, b.2)
theorem dC_enc_ (c : CE) (hc : cmay c = true) (hk : c.k < 4294967296) (r : List Nat) : dC true (encC c ++ r) = (c, true, r) := by
 obtain ⟨h1, h2, h3⟩ := cmay_len hc
 unfold encC
 cases hu : c.u with
 | true =>
   have h2 := h2 hu
   simp only [if_true, List.append_assoc]
   have e1 := dM_vi c.d.length (by omega) (Cd.vi c.k ++ (c.d ++ r)) (by simp only [List.length_append]; omega)
   have e2 := dN_vi c.k (by omega) (c.d ++ r)
   have e3 := rR_raw c.d r
   rw [dC_pos _ _ (by rw [e1]; exact h2)]
   simp only [e1, e2, e3]
   obtain ⟨u, k, d⟩ := c
   simp only at hu
   rw [hu]
 | false =>
   have h3 := h3 hu
   rw [h3]
   have e1 := dM_vi (cz.d.length) (by decide) r (Nat.zero_le _)
   simp only [Bool.false_eq_true, if_false, List.append_nil]
   rw [dC_zero _ _ (by rw [e1]; rfl), e1]
theorem flat_many {α : Type} (f : α → List Nat) (hf : ∀ x, 1 ≤ (f x).length) (l : List α) : l.length ≤ (l.flatMap f).length := by
 induction l with
 | nil => simp
 | cons x t ih => have := hf x; simp only [List.length_cons, List.flatMap_cons, List.length_append]; omega
theorem encC_pos (c : CE) : 1 ≤ (encC c).length := by
 have := Cd.vi_pos c.d.length
 unfold encC
 rw [List.length_append]
 omega
theorem encIE_pos (c : IE) : 1 ≤ (encIE c).length := by
 have := Cd.vi_pos c.t
 unfold encIE
 rw [List.length_append]
 omega
theorem encV_pos (c : LV) : 1 ≤ (encV c).length := by
 have := Cd.vi_pos c.t
 unfold encV
 rw [List.length_append]
 omega
theorem encD_pos (c : DV) : 1 ≤ (encD c).length := by
 have := Cd.vi_pos c.t
 unfold encD
 rw [List.length_append]
 omega
theorem dLC_enc_ (l : List CE) (hl : ∀ c ∈ l, cmay c = true ∧ c.k < 4294967296) (r : List Nat) : dLC l.length true (l.flatMap encC ++ r) = (l, true, r) := by
 induction l with
 | nil => simp [dLC]
 | cons c t ih =>
   have h1 := dC_enc_ c (hl c List.mem_cons_self).1 (hl c List.mem_cons_self).2 (t.flatMap encC ++ r)
   have h2 := ih fun x hx => hl x (List.mem_cons_of_mem _ hx)
   simp only [List.length_cons, List.flatMap_cons, List.append_assoc, dLC, if_true, h1, h2]
theorem dLCs_enc_ (l : List CE) (hn : l.length < 18446744073709551616) (hl : ∀ c ∈ l, cmay c = true ∧ c.k < 4294967296) (r : List Nat) : dLCs true (encL encC l ++ r) = (l, true, r) := by
 unfold dLCs encL
 rw [List.append_assoc, dM_vi _ hn _ (by have := flat_many encC encC_pos l; rw [List.length_append]; omega)]
 exact dLC_enc_ l hl r
theorem dJ_enc_ (i : IE) (hi : i.In) (hs : i.s = 0) (hm : may i.k i.es = true) (r : List Nat) : dJ true (encIE i ++ r) = (i, true, r) := by
 obtain ⟨hk, hl, hc⟩ := may_kind hm
 have hkb : i64n (kb i.k % 256) = i.k := by
  rcases hk with h | h | h <;> rw [h] <;> decide
 have ht := hi.t
 have hx := hi.x
 have e1 := dN_vi i.t ht (Cd.fixB 1 (kb i.k) ++ (Cd.vi i.x ++ (encL encC i.es ++ r)))
 have e2 := rB_fix (kb i.k) (Cd.vi i.x ++ (encL encC i.es ++ r))
 have e3 := dN_vi i.x hx (encL encC i.es ++ r)
 have e4 := dLCs_enc_ i.es (by omega) (fun c h => ⟨hc c h, hi.c c h⟩) r
 unfold encIE encP dJ
 simp only [List.append_assoc, e1, e2, e3, e4, hkb]
 obtain ⟨t, k, s, x, es⟩ := i
 simp only at hs
 rw [hs]
theorem dLJ_enc_ (l : List IE) (hl : ∀ i ∈ l, i.In ∧ i.s = 0 ∧ may i.k i.es = true) (r : List Nat) : dLJ l.length true (l.flatMap encIE ++ r) = (l, true, r) := by
 induction l with
 | nil => simp [dLJ]
 | cons c t ih =>
   obtain ⟨a, b, d⟩ := hl c List.mem_cons_self
   have h1 := dJ_enc_ c a b d (t.flatMap encIE ++ r)
   have h2 := ih fun x hx => hl x (List.mem_cons_of_mem _ hx)
   simp only [List.length_cons, List.flatMap_cons, List.append_assoc, dLJ, if_true, h1, h2]
theorem dLJs_enc_ (l : List IE) (hn : l.length < 18446744073709551616) (hl : ∀ i ∈ l, i.In ∧ i.s = 0 ∧ may i.k i.es = true) (r : List Nat) : dLJs true (encL encIE l ++ r) = (l, true, r) := by
 unfold dLJs encL
 rw [List.append_assoc, dM_vi _ hn _ (by have := flat_many encIE encIE_pos l; rw [List.length_append]; omega)]
 exact dLJ_enc_ l hl r
theorem dV_enc_ (x : LV) (h : x.Ok) (r : List Nat) : dV true (encV x ++ r) = (x, true, r) := by
 obtain ⟨t, a, b, z⟩ := x
 obtain ⟨h1, h2, h3⟩ := h
 simp only at h1 h2 h3
 have e1 := dN_vi t h1 (Cd.vi a ++ (Cd.vi b ++ (Cd.fixB 1 (if z then 1 else 0) ++ r)))
 have e2 := rI_vi a h2 (Cd.vi b ++ (Cd.fixB 1 (if z then 1 else 0) ++ r))
 have e3 := rI_vi b h3 (Cd.fixB 1 (if z then 1 else 0) ++ r)
 have e4 := rB_fix (if z then 1 else 0) r
 unfold encV dV
 simp only [List.append_assoc, e1, e2, e3, e4]
 cases z <;> rfl
theorem dLV_enc_ (l : List LV) (hl : ∀ i ∈ l, i.Ok) (r : List Nat) : dLV l.length true (l.flatMap encV ++ r) = (l, true, r) := by
 induction l with
 | nil => simp [dLV]
 | cons c t ih =>
   have h1 := dV_enc_ c (hl c List.mem_cons_self) (t.flatMap encV ++ r)
   have h2 := ih fun x hx => hl x (List.mem_cons_of_mem _ hx)
   simp only [List.length_cons, List.flatMap_cons, List.append_assoc, dLV, if_true, h1, h2]
theorem dLVs_enc_ (l : List LV) (hn : l.length < 18446744073709551616) (hl : ∀ i ∈ l, i.Ok) (r : List Nat) : dLVs true (encL encV l ++ r) = (l, true, r) := by
 unfold dLVs encL
 rw [List.append_assoc, dM_vi _ hn _ (by have := flat_many encV encV_pos l; rw [List.length_append]; omega)]
 exact dLV_enc_ l hl r
theorem dD_enc_ (x : DV) (h : x.Ok) (r : List Nat) : dD true (encD x ++ r) = (x, true, r) := by
 obtain ⟨t, a⟩ := x
 obtain ⟨h1, h2⟩ := h
 simp only at h1 h2
 have e1 := dN_vi t h1 (Cd.vi a ++ r)
 have e2 := rI_vi a h2 r
 unfold encD dD
 simp only [List.append_assoc, e1, e2]
theorem dLD_enc_ (l : List DV) (hl : ∀ i ∈ l, i.Ok) (r : List Nat) : dLD l.length true (l.flatMap encD ++ r) = (l, true, r) := by
 induction l with
 | nil => simp [dLD]
 | cons c t ih =>
   have h1 := dD_enc_ c (hl c List.mem_cons_self) (t.flatMap encD ++ r)
   have h2 := ih fun x hx => hl x (List.mem_cons_of_mem _ hx)
   simp only [List.length_cons, List.flatMap_cons, List.append_assoc, dLD, if_true, h1, h2]
theorem dLDs_enc_ (l : List DV) (hn : l.length < 18446744073709551616) (hl : ∀ i ∈ l, i.Ok) (r : List Nat) : dLDs true (encL encD l ++ r) = (l, true, r) := by
 unfold dLDs encL
 rw [List.append_assoc, dM_vi _ hn _ (by have := flat_many encD encD_pos l; rw [List.length_append]; omega)]
 exact dLD_enc_ l hl r
theorem dO_enc_ (o : ON) (hk : 1 ≤ o.k ∧ o.k ≤ 4) (hs : 0 ≤ o.s ∧ o.s < 60) (ht : o.t < 4294967296) (hd : o.d.length ≤ 180) (r : List Nat) : dO true (encO o.k o.s o.t o.d ++ r) = (o, true, r) := by
 obtain ⟨k, s, t, d⟩ := o
 simp only at hk hs ht hd
 have hu : ub s < 60 := by unfold ub; omega
 have e1 := rB_fix (kb k) (Cd.vi (ub s) ++ (Cd.vi t ++ (Cd.tx d ++ r)))
 have e2 := dN_vi (ub s) (by omega) (Cd.vi t ++ (Cd.tx d ++ r))
 have e3 := dN_vi t ht (Cd.tx d ++ r)
 have e4 := rT_tx d hd r
 have hkb : i64n (kb k % 256) = k := by rw [i64n_small (by omega)]; unfold kb; omega
 have hub : ((ub s : Nat) : Int) = s := by unfold ub; omega
 unfold encO dO
 simp only [List.append_assoc, e1, e2, e3, e4, hkb, hub]
set_option maxHeartbeats 2000000 in
theorem dR_enc {r : RE} (hr : r.In) (hf : fitsE r = true) (ho : okE r = true) : dR r.k true (fieldsE r) = (r.bare, true, []) := by
 have hk := kind_in hf
 have hall : ∀ x ∈ fmE r, x.1 = false → x.2.1 = true := fun x hx h => by
  have := List.all_eq_true.1 ho x hx
  rw [h] at this
  simpa using this
 obtain ⟨k, s, t, a, b, pg, rt, ⟨ok, os, ot, od⟩, il, ll, dl, nx⟩ := r
 have hall' : ∀ x ∈ fmE ⟨k, s, t, a, b, pg, rt, ⟨ok, os, ot, od⟩, il, ll, dl, nx⟩, x.1 = false → x.2.1 = true := hall
 unfold fmE at hall'
 simp only [List.mem_cons, List.not_mem_nil, or_false, forall_eq_or_imp, forall_eq, decide_eq_true_eq] at hall'
 obtain ⟨z0, z1, z2, z3, z4, z5, z6, z7, z8, z9⟩ := hall'
 have g0 := hr.t
 have g1 := hr.a
 have g2 := hr.b
 have g3 := hr.pg
 have g4 := hr.rt
 have g5 := hr.o
 have g9 := hr.nx
 have gi := hr.i
 have gl := hr.l
 have gd := hr.d
 have ni := hr.il
 have nl := hr.ll
 have nd := hr.dl
 have c5 := fun h => op_in hf h
 have c6 := fun h => im_in hf h
 simp only at c5 c6 g0 g1 g2 g3 g4 g5 g9 gi gl gd ni nl nd hk
 have hop : uO k = false → (⟨ok, os, ot, od⟩ : ON) = ⟨0, 0, 0, []⟩ := fun h => by
  have := z5 h
  unfold noopE at this
  simp only [Bool.and_eq_true, decide_eq_true_eq] at this
  obtain ⟨a1, a2, a3, a4⟩ := this
  rw [a1, a2, a3, List.eq_nil_of_length_eq_zero a4]
 clear z5 hall hr hf ho
 have zi : uI k = false → il = [] := fun h => List.eq_nil_of_length_eq_zero (z6 h)
 have zl : uC k = false → ll = [] := fun h => List.eq_nil_of_length_eq_zero (z7 h)
 have zd : uC k = false → dl = [] := fun h => List.eq_nil_of_length_eq_zero (z8 h)
 clear z6 z7 z8
 unfold RE.bare
 rcases (show k = 4 ∨ k = 8 ∨ k = 1 ∨ k = 2 ∨ k = 3 ∨ k = 5 ∨ k = 6 ∨ k = 7 by omega) with rfl | rfl | rfl | rfl | rfl | rfl | rfl | rfl
 ·rw [z0 (by decide), z1 (by decide), z2 (by decide), z3 (by decide), z4 (by decide), hop (by decide), zl (by decide), zd (by decide), z9 (by decide)]
  have ef : fieldsE ⟨4, s, 0, 0, 0, 0, 0, ⟨0, 0, 0, []⟩, il, [], [], 0⟩ = encL encIE il ++ [] := by simp [fieldsE, fmE, encX, uT, uP, uU, uO, uI, uC]
  have e1 := dLJs_enc_ il ni (fun x hx => ⟨gi x hx, c6 (by decide) x hx⟩) []
  unfold dR
  rw [ef, if_pos (show (4 : Int) = 4 from rfl), e1]
 ·rw [z0 (by decide), z1 (by decide), z2 (by decide), z3 (by decide), z4 (by decide), hop (by decide), zi (by decide)]
  have ef : fieldsE ⟨8, s, 0, 0, 0, 0, 0, ⟨0, 0, 0, []⟩, [], ll, dl, nx⟩ = encL encV ll ++ (encL encD dl ++ (Cd.vi nx ++ [])) := by simp [fieldsE, fmE, encX, uT, uP, uU, uO, uI, uC]
  have e1 := dLVs_enc_ ll nl gl (encL encD dl ++ (Cd.vi nx ++ []))
  have e2 := dLDs_enc_ dl nd gd (Cd.vi nx ++ [])
  have e3 := dN_vi nx g9 []
  unfold dR
  rw [ef, if_neg (show ¬ (8 : Int) = 4 by decide), if_pos (show (8 : Int) = 8 from rfl)]
  simp only [e1, e2, e3]
 ·rw [z1 (by decide), z2 (by decide), z3 (by decide), z4 (by decide), hop (by decide), zi (by decide), zl (by decide), zd (by decide), z9 (by decide)]
  have ef : fieldsE ⟨1, s, t, 0, 0, 0, 0, ⟨0, 0, 0, []⟩, [], [], [], 0⟩ = Cd.vi t ++ [] := by simp [fieldsE, fmE, encX, uT, uP, uU, uO, uI, uC]
  have e1 := dN_vi t g0 []
  unfold dR dA dB
  rw [ef, if_neg (show ¬ (1 : Int) = 4 by decide), if_neg (show ¬ (1 : Int) = 8 by decide)]
  simp only [e1, if_true, if_neg (show ¬ (1 : Int) = 3 by decide), if_neg (show ¬ ((1 : Int) = 2 ∨ (1 : Int) = 3) by decide)]
 ·rw [z2 (by decide), zi (by decide), zl (by decide), zd (by decide), z9 (by decide)]
  have ef : fieldsE ⟨2, s, t, a, 0, pg, rt, ⟨ok, os, ot, od⟩, [], [], [], 0⟩ = Cd.vi t ++ (Cd.vi a ++ (Cd.vi pg ++ (Cd.vi rt ++ (encO ok os ot od ++ [])))) := by simp [fieldsE, fmE, encX, uT, uP, uU, uO, uI, uC]
  obtain ⟨k1, k2, k3⟩ := c5 (by decide)
  have e1 := dN_vi t g0 (Cd.vi a ++ (Cd.vi pg ++ (Cd.vi rt ++ (encO ok os ot od ++ []))))
  have e2 := rI_vi a g1 (Cd.vi pg ++ (Cd.vi rt ++ (encO ok os ot od ++ [])))
  have e4 := dN_vi pg g3 (Cd.vi rt ++ (encO ok os ot od ++ []))
  have e5 := dN_vi rt g4 (encO ok os ot od ++ [])
  have e6 := dO_enc_ ⟨ok, os, ot, od⟩ k1 k2 g5 k3 []
  unfold dR dA dB
  rw [ef, if_neg (show ¬ (2 : Int) = 4 by decide), if_neg (show ¬ (2 : Int) = 8 by decide), if_pos (show (2 : Int) = 2 ∨ (2 : Int) = 3 by decide)]
  simp only [e1, if_neg (show ¬ ((2 : Int) = 1) by decide), e2]
  simp only [if_neg (show ¬ ((2 : Int) = 3) by decide), e4, e5]
  simp only [e6]
 ·rw [zi (by decide), zl (by decide), zd (by decide), z9 (by decide)]
  have ef : fieldsE ⟨3, s, t, a, b, pg, rt, ⟨ok, os, ot, od⟩, [], [], [], 0⟩ = Cd.vi t ++ (Cd.vi a ++ (Cd.vi b ++ (Cd.vi pg ++ (Cd.vi rt ++ (encO ok os ot od ++ []))))) := by simp [fieldsE, fmE, encX, uT, uP, uU, uO, uI, uC]
  obtain ⟨k1, k2, k3⟩ := c5 (by decide)
  have e1 := dN_vi t g0 (Cd.vi a ++ (Cd.vi b ++ (Cd.vi pg ++ (Cd.vi rt ++ (encO ok os ot od ++ [])))))
  have e2 := rI_vi a g1 (Cd.vi b ++ (Cd.vi pg ++ (Cd.vi rt ++ (encO ok os ot od ++ []))))
  have e3 := rI_vi b g2 (Cd.vi pg ++ (Cd.vi rt ++ (encO ok os ot od ++ [])))
  have e4 := dN_vi pg g3 (Cd.vi rt ++ (encO ok os ot od ++ []))
  have e5 := dN_vi rt g4 (encO ok os ot od ++ [])
  have e6 := dO_enc_ ⟨ok, os, ot, od⟩ k1 k2 g5 k3 []
  unfold dR dA dB
  rw [ef, if_neg (show ¬ (3 : Int) = 4 by decide), if_neg (show ¬ (3 : Int) = 8 by decide), if_pos (show (3 : Int) = 2 ∨ (3 : Int) = 3 by decide)]
  simp only [e1, if_neg (show ¬ ((3 : Int) = 1) by decide), e2]
  simp only [if_true, e3, e4, e5]
  simp only [e6]
 ·rw [z2 (by decide), z3 (by decide), z4 (by decide), hop (by decide), zi (by decide), zl (by decide), zd (by decide), z9 (by decide)]
  have ef : fieldsE ⟨5, s, t, a, 0, 0, 0, ⟨0, 0, 0, []⟩, [], [], [], 0⟩ = Cd.vi t ++ (Cd.vi a ++ []) := by simp [fieldsE, fmE, encX, uT, uP, uU, uO, uI, uC]
  have e1 := dN_vi t g0 (Cd.vi a ++ [])
  have e2 := rI_vi a g1 []
  unfold dR dA dB
  rw [ef, if_neg (show ¬ (5 : Int) = 4 by decide), if_neg (show ¬ (5 : Int) = 8 by decide), if_neg (show ¬ ((5 : Int) = 2 ∨ (5 : Int) = 3) by decide)]
  simp only [e1, if_neg (show ¬ ((5 : Int) = 1) by decide), e2, if_neg (show ¬ ((5 : Int) = 3) by decide)]
 ·rw [z2 (by decide), z3 (by decide), z4 (by decide), hop (by decide), zi (by decide), zl (by decide), zd (by decide), z9 (by decide)]
  have ef : fieldsE ⟨6, s, t, a, 0, 0, 0, ⟨0, 0, 0, []⟩, [], [], [], 0⟩ = Cd.vi t ++ (Cd.vi a ++ []) := by simp [fieldsE, fmE, encX, uT, uP, uU, uO, uI, uC]
  have e1 := dN_vi t g0 (Cd.vi a ++ [])
  have e2 := rI_vi a g1 []
  unfold dR dA dB
  rw [ef, if_neg (show ¬ (6 : Int) = 4 by decide), if_neg (show ¬ (6 : Int) = 8 by decide), if_neg (show ¬ ((6 : Int) = 2 ∨ (6 : Int) = 3) by decide)]
  simp only [e1, if_neg (show ¬ ((6 : Int) = 1) by decide), e2, if_neg (show ¬ ((6 : Int) = 3) by decide)]
 ·rw [z2 (by decide), z3 (by decide), z4 (by decide), hop (by decide), zi (by decide), zl (by decide), zd (by decide), z9 (by decide)]
  have ef : fieldsE ⟨7, s, t, a, 0, 0, 0, ⟨0, 0, 0, []⟩, [], [], [], 0⟩ = Cd.vi t ++ (Cd.vi a ++ []) := by simp [fieldsE, fmE, encX, uT, uP, uU, uO, uI, uC]
  have e1 := dN_vi t g0 (Cd.vi a ++ [])
  have e2 := rI_vi a g1 []
  unfold dR dA dB
  rw [ef, if_neg (show ¬ (7 : Int) = 4 by decide), if_neg (show ¬ (7 : Int) = 8 by decide), if_neg (show ¬ ((7 : Int) = 2 ∨ (7 : Int) = 3) by decide)]
  simp only [e1, if_neg (show ¬ ((7 : Int) = 1) by decide), e2, if_neg (show ¬ ((7 : Int) = 3) by decide)]
theorem dR_brief (k : Int) (ok : Bool) (l : List Nat) (hl : l.length ≤ 20000) : BriefE (dR k ok l).1 ∧ (dR k ok l).1.s = 0 ∧ (dR k ok l).1.k = k := by
 have z : ∀ t a b pg rt nx : Nat, ∀ o : ON, o.d.length ≤ 2000 → BriefE ⟨k, 0, t, a, b, pg, rt, o, [], [], [], nx⟩ := fun t a b pg rt nx o ho => ⟨ho, Nat.zero_le _, (fun x hx => by cases hx), Nat.zero_le _, Nat.zero_le _, Nat.zero_le _⟩
 unfold dR
 by_cases h4 : k = 4
 ·rw [if_pos h4]
  have hm := dM_le ok l
  obtain ⟨h1, h2, h3⟩ := dLJ_sum (dM ok l).1 (dM ok l).2.1 (dM ok l).2.2 (by omega)
  exact ⟨⟨Nat.zero_le _, by show (dLJ _ _ _).1.length ≤ _; omega, h3, by show ((dLJ _ _ _).1.flatMap encIE).length ≤ _; omega, Nat.zero_le _, Nat.zero_le _⟩, rfl, rfl⟩
 ·rw [if_neg h4]
  by_cases h8 : k = 8
  ·rw [if_pos h8]
   have hm := dM_le ok l
   have h1 := dLV_sum (dM ok l).1 (dM ok l).2.1 (dM ok l).2.2
   have hv : (dLVs ok l).2.2.length ≤ l.length := Nat.le_trans (dLV_le _ _ _) hm
   have hm2 := dM_le (dLVs ok l).2.1 (dLVs ok l).2.2
   have h2 := dLD_sum (dM (dLVs ok l).2.1 (dLVs ok l).2.2).1 (dM (dLVs ok l).2.1 (dLVs ok l).2.2).2.1 (dM (dLVs ok l).2.1 (dLVs ok l).2.2).2.2
   exact ⟨⟨Nat.zero_le _, Nat.zero_le _, (fun x hx => by cases hx), Nat.zero_le _, by show (dLV _ _ _).1.length ≤ _; omega, by show (dLD _ _ _).1.length ≤ _; omega⟩, rfl, rfl⟩
  ·rw [if_neg h8]
   by_cases h2 : k = 2 ∨ k = 3
   ·simp only [if_pos h2]
    refine ⟨z _ _ _ _ _ _ _ (Nat.le_trans (rT_in _ _).1 (by decide)), ?_⟩
    first | exact ⟨rfl, rfl⟩ | simp
   ·simp only [if_neg h2]
    refine ⟨z _ _ _ _ _ _ _ (Nat.zero_le _), ?_⟩
    first | exact ⟨rfl, rfl⟩ | simp
end Go.Proofs.YtdhgbkibbileiaaGreat
namespace Go.Proofs.YtdhgbkibbileiaaGreat
open Go.RowKit
end Go.Proofs.YtdhgbkibbileiaaGreat
set_option maxRecDepth 100000
namespace Go.Proofs.YtdhgbkibbileiaaGreat
open Go.RowKit
def Qe (w : World) (S Y : Nat → Prop) (g : Nat) (ok : Bool) (l : List Nat) : Prop :=
 S g ∧ ∃ A n c, Blk w g 75 #[.slice A n c, .bool (!ok)] ∧ RB w (fun b => Y b ∧ b ≠ g) A n l ∧ n ≤ c ∧ n ≤ 140737488351232
section
variable {w w' : World} {S Y T : Nat → Prop} {g : Nat} {ok : Bool} {l : List Nat}
theorem Qe.keep (h : Qe w S Y g ok l) (hf : Fr w w' T) (hd : ∀ b, S b → ¬ T b) (hy : ∀ b, Y b → ¬ T b) : Qe w' S Y g ok l := by
 obtain ⟨h1, A, n, c, h2, h3, h4⟩ := h
 exact ⟨h1, A, n, c, h2.keep hf (hd g h1), h3.keep hf fun b hb => hy b hb.1, h4⟩
theorem Qe.lt (h : Qe w S Y g ok l) : ∀ x ∈ l, x < 256 := by obtain ⟨_, _, _, _, _, h3, _⟩ := h; exact h3.lt
theorem Qe.len (h : Qe w S Y g ok l) : l.length ≤ 140737488351232 := by obtain ⟨_, _, n, _, _, h3, _, h4⟩ := h; rw [h3.len]; exact h4
end
def Ge {α : Type} (w : World) (S Y : Nat → Prop) (g : Nat) (ok : Bool) (l : List Nat) (o : Option (α × Nat)) (w' : World) : Prop :=
 Qe w' S Y g (okO ok o) (leftO ok l o) ∧ Fr w w' S
theorem Qe.fault {w : World} {S Y : Nat → Prop} {g : Nat} {ok : Bool} {l : List Nat} (h : Qe w S Y g ok l) :
  Qe (w.setCell ⟨g, 1, none⟩ (.bool true)) S Y g false l ∧ Fr w (w.setCell ⟨g, 1, none⟩ (.bool true)) S := by
 obtain ⟨hS, A, n, c, hb, hr, h4⟩ := h
 refine ⟨⟨hS, A, n, c, by simpa using hb.set_ 1 (.bool true), hr.far (fun hh => hh.2 rfl) _, h4⟩, (Fr.refl _ _).setCell (Or.inl hS) _⟩
theorem Qe.at_ {w : World} {S Y : Nat → Prop} {g : Nat} {ok : Bool} {l' : List Nat} {A B : Option Addr} {n c n' c' : Nat} (hS : S g) (hb : Blk w g 75 #[.slice A n c, .bool (!ok)]) (hr : RB w (fun b => Y b ∧ b ≠ g) B n' l') (hc : n' ≤ c') (hn : n' ≤ 140737488351232) :
  Qe (w.setCell ⟨g, 0, none⟩ (.slice B n' c')) S Y g ok l' ∧ Fr w (w.setCell ⟨g, 0, none⟩ (.slice B n' c')) S :=
 ⟨⟨hS, _, _, _, by simpa using hb.set_ 0 (.slice B n' c'), hr.far (fun hh => hh.2 rfl) _, hc, hn⟩, (Fr.refl _ _).setCell (Or.inl hS) _⟩
theorem eqerr_any (w : World) (S Y : Nat → Prop) (g : Nat) (ok : Bool) (l : List Nat) (h : Qe w S Y g ok l) :
  Calls Tryz.prog 59 #[qp g] w fun e w' => e = .returned (.int .i64 (errOf ok)) ∧ w = w' := by
 obtain ⟨_, A, n, c, hb, _⟩ := h
 have hc := hb.cell 1
 clear hb
 unfold qp
 cases ok with
 | true =>
   simp only [errOf, if_true]
   simp only [Bool.not_true] at hc
   go_enter Tryz.func59, Tryz.ntmps59
   go_wp2
   go_ret
   exact ⟨rfl, rfl⟩
 | false =>
   simp only [errOf, Bool.false_eq_true, if_false]
   simp only [Bool.not_false] at hc
   go_enter Tryz.func59, Tryz.ntmps59
   go_wp2
   go_ret
   exact ⟨rfl, rfl⟩
theorem eqend_any (w : World) (S Y : Nat → Prop) (g : Nat) (ok : Bool) (l : List Nat) (h : Qe w S Y g ok l) :
  Calls Tryz.prog 37 #[qp g] w fun e w' => e = .returned (.int .i64 (errOf (ok && l.isEmpty))) ∧ Qe w' S Y g (ok && l.isEmpty) l ∧ Fr w w' S := by
 have hq : Qe (w.setCell ⟨g, 1, none⟩ (.bool (!(ok && l.isEmpty)))) S Y g (ok && l.isEmpty) l ∧ Fr w (w.setCell ⟨g, 1, none⟩ (.bool (!(ok && l.isEmpty)))) S := by
  obtain ⟨hS, A, n, c, hb, hr, h4⟩ := h
  exact ⟨⟨hS, A, n, c, by simpa using hb.set_ 1 (.bool (!(ok && l.isEmpty))), hr.far (fun hh => hh.2 rfl) _, h4⟩, (Fr.refl _ _).setCell (Or.inl hS) _⟩
 have HE := Lib.hid (eqerr_any _ S Y g _ l hq.1)
 have HQ := Lib.hid hq
 clear hq
 obtain ⟨hS, A, n, c, hb, hr, h4⟩ := h
 have hc0 := hb.cell 0
 have hc1 := hb.cell 1
 have hc2 := hb.frozen 1
 have hln := hr.len
 clear hb hr
 unfold qp at HE ⊢
 cases ok with
 | true =>
   cases l with
   | nil =>
     simp only [List.length_nil] at hln
     subst hln
     simp only [Bool.not_true, List.isEmpty_nil, Bool.true_and] at hc1 HE HQ ⊢
     go_enter Tryz.func37, Tryz.ntmps37
     go_wp2_with (go_at_call 59; refine HE.out.mono ?_; rintro e w' ⟨rfl, rfl⟩)
     go_ret
     exact ⟨rfl, HQ.out⟩
   | cons b r =>
     have hpos : 0 < n := by simp only [List.length_cons] at hln; omega
     simp only [Bool.not_true, Bool.not_false, List.isEmpty_cons, Bool.true_and] at hc1 HE HQ ⊢
     clear hln
     go_enter Tryz.func37, Tryz.ntmps37
     go_wp2_with (go_at_call 59; refine HE.out.mono ?_; rintro e w' ⟨rfl, rfl⟩)
     go_ret
     exact ⟨rfl, HQ.out⟩
 | false =>
   simp only [Bool.not_false, Bool.false_and] at hc1 HE HQ ⊢
   clear hln
   go_enter Tryz.func37, Tryz.ntmps37
   go_wp2_with (go_at_call 59; refine HE.out.mono ?_; rintro e w' ⟨rfl, rfl⟩)
   go_ret
   exact ⟨rfl, HQ.out⟩
def Te (w : World) (S Y : Nat → Prop) (g : Nat) (ok : Bool) (l : List Nat) (n : Int) (e : Ending) (w' : World) : Prop :=
 ∃ v k, e = .returned v ∧ k = (valO ok (takeO l n) []).length ∧ Ow w' (fun b => w.heap.size ≤ b) v k (valO ok (takeO l n) []) ∧ Ge w S Y g ok l (takeO l n) w'
set_option maxHeartbeats 1000000 in
theorem eqtake_any (w : World) (S Y : Nat → Prop) (g : Nat) (ok : Bool) (l : List Nat) (n : Int) (h1 : -9223372036854775808 ≤ n) (h2 : n ≤ 9223372036854775807) (h : Qe w S Y g ok l) :
  Calls Tryz.prog 56 #[qp g, .int .i64 n] w (Te w S Y g ok l n) := by
 have HD := Lib.hid h.fault
 obtain ⟨hS, A, m, c, hb, hr, hmc, hm⟩ := h
 have hc0 := hb.cell 0
 have hc1 := hb.cell 1
 have hc2 := hb.frozen 1
 have hc3 := hb.frozen 0
 have hln := hr.len
 have hgl := hb.lt
 unfold qp
 cases ok with
 | false =>
   simp only [Bool.not_false] at hc1
   clear hb hr hln
   go_enter Tryz.func56, Tryz.ntmps56
   go_wp2
   go_ret
   exact ⟨_, 0, rfl, rfl, Ow.nil_ _ _, HD.out⟩
 | true =>
   simp only [Bool.not_true] at hc1
   by_cases hn : 0 ≤ n ∧ n ≤ l.length
   ·obtain ⟨hn1, hn2⟩ := hn
    obtain ⟨k, rfl⟩ := Int.eq_ofNat_of_zero_le hn1
    have hk : k ≤ m := by omega
    have HB := Lib.hid hb
    have HRB := Lib.hid (hr.mono (T := fun b => (Y b ∧ b ≠ g) ∧ b < w.heap.size) fun b hb hs => ⟨hs, hb⟩)
    have HO := Lib.hid (takeO_yes (l := l) (k := k) (by omega))
    have hg1 : decide ((k : Int) < 0) = false := by simp
    have hg2 : decide (m < k) = false := by simp; omega
    clear hb hr hln hn1 hn2
    go_enter Tryz.func56, Tryz.ntmps56
    go_wp2
    go_loopw [5, 6] (fun v0 i wr => ∃ (j : Nat) (v : Value), v = v0 ∧ j ≤ k ∧ i = .int .i64 (j : Int) ∧ Own w wr v (l.take j)) (fun _ i _ => k - (intOf i).toNat)
    case atStart => exact ⟨0, _, rfl, by omega, rfl, Own.nil_ w⟩
    case round =>
     obtain ⟨j, v, rfl, hj, rfl, ho⟩ := hrel
     have HO2 := Lib.hid ho
     have hb2 := (HB.out.below ho.2 hgl)
     have hd0 : wr.cell? ⟨g, 0, none⟩ = some (.slice A m c) := by simpa using hb2.cell 0
     have hd1 : wr.frozen? ⟨g, 0, none⟩ = false := hb2.frozen 0
     have HR2 := Lib.hid (HRB.out.below ho.2 (fun b hb => hb.2))
     have HB2 := Lib.hid hb2
     have hlj : (l.take j).length ≤ 140737488351232 := by simp; omega
     have hlj2 : (l.take j).length ≤ j := by simp; omega
     clear ho hb2
     by_cases hlt : j < k
     ·obtain ⟨ad, rfl, hx, hcx⟩ := HR2.out.at_ (show j < m by omega)
      obtain ⟨z, hz⟩ : ∃ z, z = l.getD j 0 := ⟨_, rfl⟩
      rw [← hz] at hx hcx
      have HZ := Lib.hid hz
      have hjm : j < m := by omega
      clear hz
      go_wp2_with (at_builtin; go_must (refine wpList_app rfl (.tmp 32) (.tmp 40) rfl v _ (l.take j) rfl (HO2.out.alloc _).1 (fun _ => True) (some ⟨wr.heap.size, 0, none⟩) 1 1 [z] rfl (one_of _ _ _ (by rfl) (by omega)) (by omega) ?_); intro v1 w1 hown hgrow; have HS := Lib.hid (Own.step (HO2.out.alloc _) hgrow hown); clear hown hgrow)
      go_roundw
      case rel =>
       refine ⟨j + 1, _, rfl, by omega, by go_num, ?_⟩
       have hln := HR2.out.len
       have e : l.take (j + 1) = l.take j ++ [z] := by
        rw [List.take_succ_eq_append_getElem (by omega), HZ.out]
        simp [show j < l.length by omega]
       rw [e]
       exact HS.out
      case measure => simp [intOf]; omega
     ·obtain rfl : j = k := by omega
      have hln := HR2.out.len
      have hd := HR2.out.drop hk hmc
      have HDR := Lib.hid (hd.mono (T := fun b => Y b ∧ b ≠ g) fun b _ hb => hb.1)
      have hlen : (l.take j).length = j := by simp; omega
      have HL := Lib.hid hlen
      clear hd hln hlen
      go_wp2
      all_goals
       go_ret
       unfold Te
       rw [HO.out]
       have hd := HDR.out
       by_cases hcx : c = j
       ·rw [if_pos hcx] at hd
        first
        | (refine ⟨_, _, rfl, rfl, HO2.out.1.far HB2.out (by decide) _, ?_⟩
           have hq := Qe.at_ (ok := true) hS HB2.out hd (show m - j ≤ 0 by omega) (by omega)
           exact ⟨hq.1, (Fr.of_below HO2.out.2 S).same hq.2⟩)
        | (exfalso; revert hcx; assumption)
       ·rw [if_neg hcx] at hd
        first
        | (refine ⟨_, _, rfl, rfl, HO2.out.1.far HB2.out (by decide) _, ?_⟩
           have hq := Qe.at_ (ok := true) (c' := c - j) hS HB2.out hd (by omega) (by omega)
           exact ⟨hq.1, (Fr.of_below HO2.out.2 S).same hq.2⟩)
        | (exfalso; apply hcx; assumption)
   ·have HO := Lib.hid (takeO_no hn)
    have hn' : n < 0 ∨ (m : Int) < n := by omega
    clear hb hr hln hn
    rcases hn' with hn | hn
    ·go_enter Tryz.func56, Tryz.ntmps56
     go_wp2
     go_ret
     unfold Te
     rw [HO.out]
     exact ⟨_, 0, rfl, rfl, Ow.nil_ _ _, HD.out⟩
    ·have hn0 : ¬ n < 0 := by omega
     go_enter Tryz.func56, Tryz.ntmps56
     go_wp2
     go_ret
     unfold Te
     rw [HO.out]
     exact ⟨_, 0, rfl, rfl, Ow.nil_ _ _, HD.out⟩
theorem Ge.fix {w w' : World} {S Y : Nat → Prop} {g : Nat} {ok : Bool} {l : List Nat} {k : Nat} (h : Ge w S Y g ok l (takeO l k) w') : Ge w S Y g ok l (fixO l k) w' := by
 unfold Ge at h ⊢
 rw [fixO_ok, fixO_left]
 exact h
set_option maxHeartbeats 1000000 in
theorem eqfixed_any (w : World) (S Y : Nat → Prop) (g : Nat) (ok : Bool) (l : List Nat) (k : Nat) (hk : k ≤ 8) (h : Qe w S Y g ok l) :
  Calls Tryz.prog 55 #[qp g, .int .i64 (k : Int)] w fun e w' => e = .returned (.int .u64 ((valO ok (fixO l k) 0 : Nat) : Int)) ∧ Ge w S Y g ok l (fixO l k) w' := by
 have HT := Lib.hid (eqtake_any w S Y g ok l k (by omega) (by omega) h)
 clear h
 go_enter Tryz.func55, Tryz.ntmps55
 go_wp2_with fail
 refine HT.out.mono ?_
 rintro e w1 ⟨v, m, rfl, hme, ho, hg⟩
 have hm8 : m ≤ 8 := by rw [hme]; have := takeO_len ok l k; omega
 have HG := Lib.hid hg.fix
 have HV := Lib.hid (fixO_val ok l k)
 obtain ⟨t, ht⟩ : ∃ t, t = valO ok (takeO l (k : Nat)) [] := ⟨_, rfl⟩
 obtain ⟨A, c, rfl, _, _, hr⟩ := ho.reads
 rw [← ht] at hr
 have HRB := Lib.hid hr
 have HTT := Lib.hid ht
 have hbd : Cd.unfix t < 18446744073709551616 := by
  refine Nat.lt_of_lt_of_le (Cd.unfix_lt t hr.lt) ?_
  rw [hr.len]
  exact Nat.le_trans (Nat.pow_le_pow_right (by omega) hm8) (by decide)
 have HBD := Lib.hid hbd
 clear hr ho hg ht hme hbd
 go_wp2
 go_loop [6, 7] (fun y i0 => ∃ (i : Int) (r : Nat), -1 ≤ i ∧ i < m ∧ i0 = .int .i64 i ∧ r = Cd.unfix (t.drop (i + 1).toNat) ∧ y = .int .u64 (r : Int)) (fun _ i => (intOf i + 1).toNat)
 case atStart =>
  refine ⟨(m : Int) - 1, 0, by omega, by omega, rfl, ?_, rfl⟩
  rw [List.drop_of_length_le (by rw [HRB.out.len]; omega)]
  rfl
 case round =>
  obtain ⟨i, r, hi1, hi2, rfl, hr, rfl⟩ := hrel
  by_cases hi : 0 ≤ i
  ·obtain ⟨j, rfl⟩ := Int.eq_ofNat_of_zero_le hi
   have hjm : j < m := by omega
   obtain ⟨ad, rfl, hx2, hc2⟩ := HRB.out.at_ hjm
   obtain ⟨z, hz⟩ : ∃ z, z = t.getD j 0 := ⟨_, rfl⟩
   rw [← hz] at hx2 hc2
   have hv := unfix_drop t j (by rw [HRB.out.len]; omega)
   rw [← hz] at hv
   have hle := unfix_drop_le t j
   have hlt2 := HBD.out
   have hjn : ((j : Int) + 1).toNat = j + 1 := by omega
   rw [hjn] at hr
   rw [← hr] at hv
   have hbd : z + 256 * r < 18446744073709551616 := by omega
   have HW := Lib.hid hv
   clear hz hv hle hlt2 hjn hr
   go_wp2
   go_round
   case rel =>
    refine ⟨(j : Int) - 1, z + 256 * r, by omega, by omega, by first | rfl | go_num, ?_, ?_⟩
    ·rw [show ((j : Int) - 1 + 1).toNat = j by omega, HW.out]
    ·exact congrArg _ (by omega)
   case measure => simp [intOf]
  ·obtain rfl : i = -1 := by omega
   have HR := Lib.hid hr
   clear hr
   go_wp2
   go_ret
   have hr := HR.out
   simp only [Int.reduceNeg, Int.reduceAdd, Int.toNat_zero, List.drop_zero] at hr
   rw [HV.out, ← HTT.out, ← hr]
   exact ⟨rfl, HG.out⟩
theorem equint_any (w : World) (S Y : Nat → Prop) (g : Nat) (ok : Bool) (l : List Nat) (h : Qe w S Y g ok l) :
  Calls Tryz.prog 57 #[qp g] w fun e w' => e = .returned (.int .u64 ((valO ok (Cd.front l) 0 : Nat) : Int)) ∧ Ge w S Y g ok l (Cd.front l) w' := by
 have HD := Lib.hid h.fault
 obtain ⟨hS, A, m, c, hb, hr, hmc, hm⟩ := h
 have hln := hr.len
 have hc0 := hb.cell 0
 have hc1 := hb.cell 1
 have hc2 := hb.frozen 0
 have hc3 := hb.frozen 1
 have hcn := front_any w _ A m c l hr hm
 obtain ⟨x, k, he, hk⟩ := frontV_eq l
 rw [he] at hcn
 have HC := Lib.hid hcn
 have HB := Lib.hid hb
 have HRB := Lib.hid hr
 unfold qp
 clear he hcn hb hr
 cases ok with
 | false =>
   simp only [Bool.not_false] at hc1
   clear hk hln
   go_enter Tryz.func57, Tryz.ntmps57
   go_wp2_with (go_at_call 100; refine HC.out.mono ?_; rintro e w' ⟨rfl, rfl⟩)
   go_ret
   exact ⟨rfl, HD.out⟩
 | true =>
   simp only [Bool.not_true] at hc1
   rcases hk with ⟨hk, rfl, rfl⟩ | ⟨hk, hk0, hkl, hx⟩
   ·rw [hk]
    clear hk hln
    go_enter Tryz.func57, Tryz.ntmps57
    go_wp2_with (go_at_call 100; refine HC.out.mono ?_; rintro e w' ⟨rfl, rfl⟩)
    go_ret
    exact ⟨rfl, HD.out⟩
   ·rw [hk]
    have hkm : k ≤ m := by omega
    have hkne : ((k : Int) == 0) = false := by simp; omega
    clear hk hln
    go_enter Tryz.func57, Tryz.ntmps57
    go_wp2_with (go_at_call 100; refine HC.out.mono ?_; rintro e w' ⟨rfl, rfl⟩)
    all_goals
     go_ret
     have hd := HRB.out.drop hkm hmc
     by_cases hcx : c = k
     ·rw [if_pos hcx] at hd
      first
      | exact ⟨rfl, Qe.at_ (ok := true) hS HB.out hd (by omega) (by omega)⟩
      | (exfalso; revert hcx; assumption)
     ·rw [if_neg hcx] at hd
      first
      | exact ⟨rfl, Qe.at_ (ok := true) hS HB.out hd (by omega) (by omega)⟩
      | (exfalso; apply hcx; assumption)
set_option maxHeartbeats 1000000 in
theorem eqtext_part (w : World) (S Y : Nat → Prop) (g : Nat) (l : List Nat) (most : Int) (h1 : 0 ≤ most) (h2 : most ≤ 9223372036854775807) (x k : Nat) (h : Qe w S Y g true l)
  (hf : Cd.front l = some (x, k)) (hx : x < 18446744073709551616) (hk0 : 0 < k) (hkl : k ≤ l.length) (hxm : x ≤ l.length - k) (hxo : x ≤ most) :
  Calls Tryz.prog 58 #[qp g, .int .i64 most] w fun e w' => e = .returned (strV true l most) ∧ Ge w S Y g true l (Cd.text l most) w' := by
 obtain ⟨hS, A, m, c, hb, hr, hmc, hm⟩ := h
 have hln := hr.len
 have hcn := front_any w _ A m c l hr hm
 rw [frontV_some hf] at hcn
 have HC := Lib.hid hcn
 have HY := Lib.hid (text_yes (most := most) hf (by omega))
 have HB := Lib.hid hb
 have HRB := Lib.hid hr
 have hc0 := hb.cell 0
 have hc1 := hb.cell 1
 have hc2 := hb.frozen 0
 have hkne : ((k : Int) == 0) = false := by simp; omega
 have hkm : k ≤ m := by omega
 have hx2 : x ≤ m - k := by omega
 simp only [Bool.not_true] at hc1
 have hT : ∀ W, Qe W S Y g true (l.drop k) → Calls Tryz.prog 56 #[qp g, .int .i64 (x : Int)] W (Te W S Y g true (l.drop k) x) := fun W hq => eqtake_any W S Y g true (l.drop k) x (by omega) (by omega) hq
 have HT := Lib.hid hT
 have hTO : takeO (l.drop k) (x : Int) = some ((l.drop k).take x, x) := takeO_yes (by simp; omega)
 have HO := Lib.hid hTO
 clear hb hr hf hcn hln hT hTO hxm hkl
 unfold qp at HT ⊢
 go_enter Tryz.func58, Tryz.ntmps58
 go_wp2_with (go_at_call 100; refine HC.out.mono ?_; rintro e w' ⟨rfl, rfl⟩)
 case inl =>
  have hcx : c = k := by assumption
  have hd := HRB.out.drop hkm hmc
  rw [if_pos hcx] at hd
  have hq := Qe.at_ (ok := true) (c' := 0) hS HB.out hd (by omega) (by omega)
  have HQ := Lib.hid hq
  refine (HT.out _ hq.1).mono ?_
  rintro e w2 ⟨v, n2, rfl, hn2, ho, hg2⟩
  unfold Ge at hg2
  rw [HO.out] at hg2 ho
  have HG2 := Lib.hid hg2
  obtain ⟨A2, c2, rfl, _, _, hr2⟩ := ho.reads
  have hcv := run_conv _ _ _ c2 _ w2 hr2
  clear hq hg2 ho hr2 hn2 hd
  go_wp2
  go_ret
  unfold strV Ge
  rw [HY.out]
  refine ⟨rfl, ?_, HQ.out.2.same HG2.out.2⟩
  have hg2 := HG2.out.1
  have e : leftO true (l.drop k) (some ((l.drop k).take x, x)) = l.drop (k + x) := by
   show (l.drop k).drop x = _
   rw [List.drop_drop]
  rw [e] at hg2
  exact hg2
 case inr =>
  have hcx : ¬ c = k := by assumption
  have hd := HRB.out.drop hkm hmc
  rw [if_neg hcx] at hd
  have hq := Qe.at_ (ok := true) (c' := c - k) hS HB.out hd (by omega) (by omega)
  have HQ := Lib.hid hq
  refine (HT.out _ hq.1).mono ?_
  rintro e w2 ⟨v, n2, rfl, hn2, ho, hg2⟩
  unfold Ge at hg2
  rw [HO.out] at hg2 ho
  have HG2 := Lib.hid hg2
  obtain ⟨A2, c2, rfl, _, _, hr2⟩ := ho.reads
  have hcv := run_conv _ _ _ c2 _ w2 hr2
  clear hq hg2 ho hr2 hn2 hd
  go_wp2
  go_ret
  unfold strV Ge
  rw [HY.out]
  refine ⟨rfl, ?_, HQ.out.2.same HG2.out.2⟩
  have hg2 := HG2.out.1
  have e : leftO true (l.drop k) (some ((l.drop k).take x, x)) = l.drop (k + x) := by
   show (l.drop k).drop x = _
   rw [List.drop_drop]
  rw [e] at hg2
  exact hg2
set_option maxHeartbeats 1000000 in
theorem eqtext_any (w : World) (S Y : Nat → Prop) (g : Nat) (ok : Bool) (l : List Nat) (most : Int) (h1 : -9223372036854775808 ≤ most) (h2 : most ≤ 9223372036854775807) (h : Qe w S Y g ok l) :
  Calls Tryz.prog 58 #[qp g, .int .i64 most] w fun e w' => e = .returned (strV ok l most) ∧ Ge w S Y g ok l (Cd.text l most) w' := by
 cases hfr : Cd.front l with
 | none =>
   have HN := Lib.hid (text_none (most := most) hfr)
   have HD := Lib.hid h.fault
   obtain ⟨hS, A, m, c, hb, hr, hmc, hm⟩ := h
   have hc0 := hb.cell 0
   have hc1 := hb.cell 1
   have hc2 := hb.frozen 1
   have hcn := front_any w _ A m c l hr hm
   rw [← frontV_none hfr] at hcn
   have HC := Lib.hid hcn
   unfold qp
   clear hcn hb hr hfr
   cases ok with
   | true =>
     simp only [Bool.not_true] at hc1
     go_enter Tryz.func58, Tryz.ntmps58
     go_wp2_with (go_at_call 100; refine HC.out.mono ?_; rintro e w' ⟨rfl, rfl⟩)
     all_goals
      go_ret
      unfold strV
      rw [HN.out]
      exact ⟨rfl, HD.out⟩
   | false =>
     simp only [Bool.not_false] at hc1
     go_enter Tryz.func58, Tryz.ntmps58
     go_wp2_with (go_at_call 100; refine HC.out.mono ?_; rintro e w' ⟨rfl, rfl⟩)
     all_goals
      go_ret
      exact ⟨rfl, HD.out⟩
 | some q =>
   obtain ⟨x, k⟩ := q
   obtain ⟨hk0, hkl, hk10⟩ := Cd.front_pos hfr
   have hx := Cd.front_lt hfr
   by_cases hok : ok = true ∧ ¬ (most < 0 ∨ most < x ∨ l.length - k < x)
   ·obtain ⟨rfl, hbad⟩ := hok
    exact eqtext_part w S Y g l most (by omega) h2 x k h hfr hx hk0 hkl (by omega) (by omega)
   ·have HD := Lib.hid h.fault
    have hkne : ((k : Int) == 0) = false := by simp; omega
    have hlen := h.len
    obtain ⟨hS, A, m, c, hb, hr, hmc, hm⟩ := h
    have hln := hr.len
    have hkm : k ≤ m := by omega
    have hc0 := hb.cell 0
    have hc1 := hb.cell 1
    have hc2 := hb.frozen 1
    have hcn := front_any w _ A m c l hr hm
    rw [frontV_some hfr] at hcn
    have HC := Lib.hid hcn
    unfold qp
    cases ok with
    | false =>
      simp only [Bool.not_false] at hc1
      clear hcn hb hr hfr hok hln
      go_enter Tryz.func58, Tryz.ntmps58
      go_wp2_with (go_at_call 100; refine HC.out.mono ?_; rintro e w' ⟨rfl, rfl⟩)
      all_goals
       go_ret
       exact ⟨rfl, HD.out⟩
    | true =>
      have hbad : most < 0 ∨ most < x ∨ l.length - k < x := by
       rcases Classical.em (most < 0 ∨ most < x ∨ l.length - k < x) with h | h
       ·exact h
       ·exact absurd ⟨rfl, h⟩ hok
      have HN := Lib.hid (text_no hfr hbad)
      rw [hln] at hbad
      simp only [Bool.not_true] at hc1
      clear hcn hb hr hfr hok hln
      by_cases hm0 : most < 0
      ·clear hbad
       go_enter Tryz.func58, Tryz.ntmps58
       go_wp2_with (go_at_call 100; refine HC.out.mono ?_; rintro e w' ⟨rfl, rfl⟩)
       all_goals
        go_ret
        unfold strV
        rw [HN.out]
        exact ⟨rfl, HD.out⟩
      ·by_cases hmx : most < x
       ·clear hbad
        go_enter Tryz.func58, Tryz.ntmps58
        go_wp2_with (go_at_call 100; refine HC.out.mono ?_; rintro e w' ⟨rfl, rfl⟩)
        all_goals
         go_ret
         unfold strV
         rw [HN.out]
         exact ⟨rfl, HD.out⟩
       ·have hmk : m - k < x := by omega
        clear hbad
        go_enter Tryz.func58, Tryz.ntmps58
        go_wp2_with (go_at_call 100; refine HC.out.mono ?_; rintro e w' ⟨rfl, rfl⟩)
        all_goals
         go_ret
         unfold strV
         rw [HN.out]
         exact ⟨rfl, HD.out⟩
end Go.Proofs.YtdhgbkibbileiaaGreat
set_option maxRecDepth 100000
namespace Go.Proofs.YtdhgbkibbileiaaGreat
open Go.RowKit
def LQ (w : World) (S Y : Nat → Prop) (g : Nat) (s : Bool × List Nat) (w' : World) : Prop := Qe w' S Y g s.1 s.2 ∧ Fr w w' S
theorem qI_any (w : World) (S Y : Nat → Prop) (g : Nat) (ok : Bool) (l : List Nat) (h : Qe w S Y g ok l) (x : Nat) (ok' : Bool) (l' : List Nat) (hx : rI ok l = (x, ok', l')) :
  Calls Tryz.prog 57 #[qp g] w fun e w' => e = .returned (.int .u64 (x : Int)) ∧ LQ w S Y g (ok', l') w' := by
 have h1 := equint_any w S Y g ok l h
 unfold rI at hx
 injection hx with h2 h3
 injection h3 with h3 h4
 rw [h2] at h1
 unfold Ge at h1
 rw [h3, h4] at h1
 exact h1
theorem qB_any (w : World) (S Y : Nat → Prop) (g : Nat) (ok : Bool) (l : List Nat) (h : Qe w S Y g ok l) (x : Nat) (ok' : Bool) (l' : List Nat) (hx : rB ok l = (x, ok', l')) :
  Calls Tryz.prog 55 #[qp g, .int .i64 1] w fun e w' => e = .returned (.int .u64 (x : Int)) ∧ LQ w S Y g (ok', l') w' := by
 have h1 := eqfixed_any w S Y g ok l 1 (by decide) h
 unfold rB at hx
 injection hx with h2 h3
 injection h3 with h3 h4
 rw [h2] at h1
 unfold Ge at h1
 rw [h3, h4] at h1
 exact h1
theorem qN_any (w : World) (S Y : Nat → Prop) (g : Nat) (ok : Bool) (l : List Nat) (h : Qe w S Y g ok l) (x : Nat) (ok' : Bool) (l' : List Nat) (hx : dN ok l = (x, ok', l')) :
  Calls Tryz.prog 54 #[qp g] w fun e w' => e = .returned (.int .u32 (x : Int)) ∧ LQ w S Y g (ok', l') w' := by
 obtain ⟨x1, o1, l1, e1⟩ : ∃ x1 o1 l1, rI ok l = (x1, o1, l1) := ⟨_, _, _, rfl⟩
 unfold dN at hx
 rw [e1] at hx
 simp only [Prod.mk.injEq] at hx
 obtain ⟨g1, g2, g3⟩ := hx
 have H1 := Lib.hid (qI_any w S Y g ok l h x1 o1 l1 e1)
 have hw := wrap_n32 x1
 rw [g1] at hw
 subst g3
 have HX := Lib.hid g2
 clear g1 g2 e1 h
 unfold qp at H1 ⊢
 go_enter Tryz.func54, Tryz.ntmps54
 go_wp2_with fail
 with_reducible refine H1.out.mono ?_
 rintro e w1 ⟨rfl, hq, hf⟩
 have HF := Lib.hid hf
 by_cases hc : x1 ≤ 4294967295
 ·have c1 : decide ((x1 : Int) > 4294967295) = false := decide_eq_false (by omega)
  have c2 : decide (4294967295 < x1) = false := decide_eq_false (by omega)
  have hok : Hid (ok' = o1) := Lib.hid (by rw [← HX.out, decide_eq_true hc]; simp)
  have HQ := Lib.hid hq
  clear hc hq hf
  go_wp2_with fail
  go_ret
  exact ⟨rfl, by rw [hok.out]; exact HQ.out, HF.out⟩
 ·have c1 : decide ((x1 : Int) > 4294967295) = true := decide_eq_true (by omega)
  have c2 : decide (4294967295 < x1) = true := decide_eq_true (by omega)
  have hok : Hid (ok' = false) := Lib.hid (by rw [← HX.out, decide_eq_false hc]; simp)
  have HD := Lib.hid hq.fault
  obtain ⟨hS, A, n, c, hb, _⟩ := hq
  have y1 := hb.cell 1
  have f1 := hb.frozen 1
  simp only [List.getElem?_toArray, List.getElem?_cons_zero, List.getElem?_cons_succ] at y1
  clear hc hb hf hS
  go_wp2_with fail
  go_ret
  exact ⟨rfl, by rw [hok.out]; exact HD.out.1, HF.out.same HD.out.2⟩
theorem qM_any (w : World) (S Y : Nat → Prop) (g : Nat) (ok : Bool) (l : List Nat) (h : Qe w S Y g ok l) (x : Nat) (ok' : Bool) (l' : List Nat) (hx : dM ok l = (x, ok', l')) :
  Calls Tryz.prog 53 #[qp g] w fun e w' => e = .returned (.int .i64 (x : Int)) ∧ LQ w S Y g (ok', l') w' := by
 obtain ⟨x1, o1, l1, e1⟩ : ∃ x1 o1 l1, rI ok l = (x1, o1, l1) := ⟨_, _, _, rfl⟩
 unfold dM at hx
 rw [e1] at hx
 simp only at hx
 have H1 := Lib.hid (qI_any w S Y g ok l h x1 o1 l1 e1)
 have HX := Lib.hid hx
 clear hx e1 h
 unfold qp at H1 ⊢
 go_enter Tryz.func53, Tryz.ntmps53
 go_wp2_with fail
 with_reducible refine H1.out.mono ?_
 rintro e w1 ⟨rfl, hq, hf⟩
 have HF := Lib.hid hf
 have HQ := Lib.hid hq
 have HD := Lib.hid hq.fault
 have hlen := hq.len
 obtain ⟨hS, A, n, c, hb, hr, _⟩ := hq
 have hln : l1.length = n := hr.len
 have y0 := hb.cell 0
 have y1 := hb.cell 1
 have f1 := hb.frozen 1
 simp only [List.getElem?_toArray, List.getElem?_cons_zero, List.getElem?_cons_succ] at y0 y1
 have hwn : IntKind.u64.wrap (n : Int) = (n : Int) := by rw [IntKind.wrap_u64]; omega
 by_cases hc : n < x1
 ·have c1 : decide ((x1 : Int) > (n : Int)) = true := decide_eq_true (by omega)
  have c2 : decide (n < x1) = true := decide_eq_true (by omega)
  have hok : Hid ((0, false, l1) = (x, ok', l')) := Lib.hid (by have := HX.out; rw [if_pos (by omega)] at this; exact this)
  clear hc hb hf hS hr hlen hln
  go_wp2_with fail
  go_ret
  have e := hok.out
  simp only [Prod.mk.injEq] at e
  obtain ⟨e1, e2, e3⟩ := e
  subst e1 e2 e3
  exact ⟨rfl, HD.out.1, HF.out.same HD.out.2⟩
 ·have c1 : decide ((x1 : Int) > (n : Int)) = false := decide_eq_false (by omega)
  have c2 : decide (n < x1) = false := decide_eq_false (by omega)
  have hok : Hid ((x1, o1, l1) = (x, ok', l')) := Lib.hid (by have := HX.out; rw [if_neg (by omega)] at this; exact this)
  have hwx : IntKind.i64.wrap (x1 : Int) = (x1 : Int) := by rw [IntKind.wrap_i64]; omega
  clear hc hb hf hS hr hlen hln
  go_wp2_with fail
  go_ret
  have e := hok.out
  simp only [Prod.mk.injEq] at e
  obtain ⟨e1, e2, e3⟩ := e
  subst e1 e2 e3
  exact ⟨rfl, HQ.out, HF.out⟩
end Go.Proofs.YtdhgbkibbileiaaGreat
namespace Go.Proofs.YtdhgbkibbileiaaGreat
open Go.RowKit
theorem Fr.row {w : World} {g : Nat} {t : TypeId} {cs cs' : Array Value} (h : Blk w g t cs) : Blk (w.setRow g cs') g t cs' ∧ Fr w (w.setRow g cs') fun b => b = g := by
 refine ⟨setRow_heap w g _ _ _ _ h, ?_⟩
 refine ⟨rfl, rfl, rfl, by rw [setRow_size]; exact Nat.le_refl _, fun b _ hn => setRow_other w g b _ hn⟩
theorem all1 {cs : Array Value} (h : cs.toList.all (·.oneCell') = true) : cs.all (·.oneCell') = true := by
 rw [← Array.all_toList]; exact h
section
variable {ops : Array Oper} {rest : List Oper} {o : Oper} {a : Act} {w : World} {Q : Exit → Act → World → Prop}
theorem wpList_stB (hgd : o.guard = none) (ty : TypeId) (x y : Operand) (ho : o.op = .store ty x y) (g : Nat) (cs' : Array Value) (hx : a.eval x = .pointer (some ⟨g, 0, none⟩)) (hy : a.eval y = .agg cs')
  (t : TypeId) (cs : Array Value) (hb : Blk w g t cs) (hi : (Tryz.prog.info? ty).map (·.size) = some cs'.size) (hs : cs.size = cs'.size) (h1 : cs'.toList.all (·.oneCell') = true)
  (hK : ∀ w', Blk w' g t cs' → Fr w w' (fun b => b = g) → wpList Tryz.prog ops Q rest (a.put o.dst undef) w') : wpList Tryz.prog ops Q (o :: rest) a w :=
 wpList_store_row hgd ty x y ho g cs' hx hy t cs hb hi hs (all1 h1) (hK _ (Fr.row hb).1 (Fr.row hb).2)
theorem wpList_ldB (hgd : o.guard = none) (ty : TypeId) (x : Operand) (ho : o.op = .load ty x) (g : Nat) (hx : a.eval x = .pointer (some ⟨g, 0, none⟩)) (t : TypeId) (cs : Array Value) (d : TypeDesc) (hb : Blk w g t cs)
  (hu : Tryz.prog.underlying ty = some d) (hd : d.isRow = true) (hi : (Tryz.prog.info? ty).map (·.size) = some cs.size)
  (h : wpList Tryz.prog ops Q rest (a.put o.dst (.agg cs)) w) : wpList Tryz.prog ops Q (o :: rest) a w :=
 wpList_load_mid hgd ty x ho g 0 hx cs.toList d (fun j v hv => by rw [Nat.zero_add, hb.cell]; simpa using hv) hu hd (by simpa using hi) (by simpa using h)
end
theorem size31 : (Tryz.prog.info? 31).map (·.size) = some 15 := by kernel_rfl
end Go.Proofs.YtdhgbkibbileiaaGreat
