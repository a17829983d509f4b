/-
  STAGE 12: what holds of every table that has been played (mathematics).
-/
import Derived.Test.YtlblgfpafdfilaaDoorMF
namespace Go.Proofs.YtlblgfpafdfilaaDoor
open Go.RowKit Go.Sort

/-- a lock that was let in -/
structure Good (l : LK) : Prop where
  t : 1 ≤ l.t
  may : mayM l.x l.m = true
/-- whether one lock is that of another one, but held -/
def Up (l l' : LK) : Prop := l'.t = l.t ∧ l'.x = l.x ∧ l'.m = l.m ∧ (l.h = true → l'.h = true)
structure Inv (ls : List LK) : Prop where
  good : ∀ l ∈ ls, Good l
  /-- who waits, waits for one lock -/
  one : ∀ (i j : Nat) (a b : LK), ls[i]? = some a → ls[j]? = some b → a.h = false → b.h = false → a.t = b.t → i = j
  /-- what is held doesn't conflict -/
  apart : ∀ (i k : Nat) (a b : LK), ls[i]? = some a → ls[k]? = some b → a.h = true → b.h = true → (a.t != b.t) = true → conM a.m b.m = true → meetM a.x b.x = true → False
/-- who waits isn't free -/
def Stuck (ls : List LK) (n : Nat) : Prop := ∀ (p : Nat) (q : LK), p < n → ls[p]? = some q → q.h = false → freeM ls p = false

theorem meetM_symm (a b : Th) : meetM a b = meetM b a := by
  have e1 : alikeM a b = alikeM b a := by
    unfold alikeM
    rw [Bool.beq_comm (a := a.r), show (a.i == b.i) = (b.i == a.i) from BEq.comm]
  unfold meetM
  rw [e1, Bool.and_assoc, Bool.and_assoc, Bool.and_comm (aheadM a b)]
theorem conM_symm {a b : Int} (ha : 1 ≤ a ∧ a ≤ 4) (hb : 1 ≤ b ∧ b ≤ 4) : conM a b = conM b a := by
  have h1 : a = 1 ∨ a = 2 ∨ a = 3 ∨ a = 4 := by omega
  have h2 : b = 1 ∨ b = 2 ∨ b = 3 ∨ b = 4 := by omega
  rcases h1 with rfl | rfl | rfl | rfl <;> rcases h2 with rfl | rfl | rfl | rfl <;> rfl
theorem covM_self {a : Int} (ha : 1 ≤ a ∧ a ≤ 4) : covM a a = true := by
  have h1 : a = 1 ∨ a = 2 ∨ a = 3 ∨ a = 4 := by omega
  rcases h1 with rfl | rfl | rfl | rfl <;> rfl
theorem freeM_true {ls : List LK} {p : Nat} {q : LK} (hq : ls[p]? = some q) : freeM ls p = true ↔ ∀ k l, ls[k]? = some l → waitM (ls.any (passP q)) q p l k = false := by
  unfold freeM freeTo
  rw [getD_of hq, List.all_eq_true]
  constructor
  · intro h k l hl
    have := h k (List.mem_range.2 (List.getElem?_eq_some_iff.1 hl).1)
    rw [getD_of hl] at this
    simpa using this
  · intro h k hk
    have hk := List.mem_range.1 hk
    have hl : ls[k]? = some ls[k] := List.getElem?_eq_getElem hk
    rw [getD_of hl, h k _ hl]
    rfl
theorem freeM_false {ls : List LK} {p : Nat} {q : LK} (hq : ls[p]? = some q) (h : freeM ls p = false) : ∃ k l, ls[k]? = some l ∧ waitM (ls.any (passP q)) q p l k = true := by
  by_cases hx : ∃ k l, ls[k]? = some l ∧ waitM (ls.any (passP q)) q p l k = true
  · exact hx
  · exfalso
    have := (freeM_true hq).2 fun k l hl => by
      cases hw : waitM (ls.any (passP q)) q p l k with
      | false => rfl
      | true => exact absurd ⟨k, l, hl, hw⟩ hx
    rw [h] at this
    cases this
theorem freeM_of {ls : List LK} {p : Nat} {q : LK} (hq : ls[p]? = some q) {k : Nat} {l : LK} (hl : ls[k]? = some l) (hw : waitM (ls.any (passP q)) q p l k = true) : freeM ls p = false := by
  cases hf : freeM ls p with
  | false => rfl
  | true =>
    have := (freeM_true hq).1 hf k l hl
    rw [hw] at this
    cases this
/-- a place set: what the row reads then -/
theorem setH_at {ls : List LK} {p : Nat} {q : LK} (hq : ls[p]? = some q) (r : Bool) (k : Nat) : (setH ls p r)[k]? = if k = p then some { q with h := r } else ls[k]? := by
  unfold setH
  rw [getD_of hq, List.getElem?_set]
  by_cases h : p = k
  · subst h
    rw [if_pos rfl, if_pos rfl, if_pos (List.getElem?_eq_some_iff.1 hq).1]
  · rw [if_neg h, if_neg fun e => h e.symm]
theorem setH_same {ls : List LK} {p : Nat} {q : LK} (hq : ls[p]? = some q) : setH ls p q.h = ls := by
  unfold setH
  rw [getD_of hq]
  apply List.ext_getElem?
  intro k
  rw [List.getElem?_set]
  by_cases h : p = k
  · subst h
    rw [if_pos rfl, if_pos (List.getElem?_eq_some_iff.1 hq).1, hq]
  · rw [if_neg h]
/-- whether one's transaction holds there already: another's lock says nothing -/
theorem pass_setH {ls : List LK} {p : Nat} {q : LK} (hq : ls[p]? = some q) (a : LK) (hne : q.t ≠ a.t) (r : Bool) : (setH ls p r).any (passP a) = ls.any (passP a) := by
  have hp : ∀ h, passP a { q with h := h } = false := fun h => by
    unfold passP
    have : (q.t == a.t) = false := by simpa using hne
    simp only [this, Bool.false_and]
  rw [Bool.eq_iff_iff, List.any_eq_true, List.any_eq_true]
  constructor
  · rintro ⟨x, hx, hpx⟩
    obtain ⟨k, hk⟩ := List.getElem?_of_mem hx
    rw [setH_at hq] at hk
    by_cases e : k = p
    · rw [if_pos e] at hk
      injection hk with hk
      rw [← hk, hp] at hpx
      cases hpx
    · rw [if_neg e] at hk
      exact ⟨x, List.mem_of_getElem? hk, hpx⟩
  · rintro ⟨x, hx, hpx⟩
    obtain ⟨k, hk⟩ := List.getElem?_of_mem hx
    refine ⟨x, List.mem_of_getElem? (i := k) ?_, hpx⟩
    rw [setH_at hq]
    by_cases e : k = p
    · subst e
      rw [hq] at hk
      injection hk with hk
      have := hp q.h
      rw [show ({ q with h := q.h } : LK) = q from rfl, hk, hpx] at this
      cases this
    · rw [if_neg e]; exact hk
/-- one more lock held: nobody else is free who wasn't -/
theorem stuck_hold {ls : List LK} {p : Nat} {q : LK} (hq : ls[p]? = some q) (hqh : q.h = false) (hI : Inv ls) {i : Nat} {a : LK} (ha : ls[i]? = some a) (hah : a.h = false) (hip : i ≠ p) (h : freeM ls i = false) : freeM (setH ls p true) i = false := by
  have ha' : (setH ls p true)[i]? = some a := by rw [setH_at hq, if_neg hip, ha]
  have hne : q.t ≠ a.t := fun e => hip (hI.one i p a q ha hq hah hqh e.symm)
  obtain ⟨k, l, hl, hw⟩ := freeM_false ha h
  by_cases e : k = p
  · subst e
    rw [hq] at hl
    injection hl with hl
    subst hl
    refine freeM_of ha' (k := k) (l := { q with h := true }) (by rw [setH_at hq, if_pos rfl]) ?_
    unfold waitM at hw ⊢
    simp only [Bool.and_eq_true] at hw ⊢
    exact ⟨⟨⟨by simp, hw.1.1.2⟩, hw.1.2⟩, hw.2⟩
  · refine freeM_of ha' (k := k) (l := l) (by rw [setH_at hq, if_neg e, hl]) ?_
    rw [pass_setH hq a hne]
    exact hw
theorem Inv.hold {ls : List LK} {p : Nat} {q : LK} (hI : Inv ls) (hq : ls[p]? = some q) (hm : ∀ l ∈ ls, 1 ≤ l.m ∧ l.m ≤ 4) (hf : freeM ls p = true) : Inv (setH ls p true) := by
  have hW := (freeM_true hq).1 hf
  have hno : ∀ (k : Nat) (b : LK), ls[k]? = some b → b.h = true → (q.t != b.t) = true → conM b.m q.m = true → meetM b.x q.x = true → False := fun k b hb h1 h2 h3 h4 => by
    have := hW k b hb
    unfold waitM at this
    have h5 : (b.t != q.t) = true := by
      have : q.t ≠ b.t := by simpa using h2
      simpa using fun e => this e.symm
    rw [h1, h3, h4, h5] at this
    simp at this
  refine ⟨fun l hl => ?_, fun i j a b ha hb h1 h2 h3 => ?_, fun i k a b ha hb h1 h2 h3 h4 h5 => ?_⟩
  · obtain ⟨k, hk⟩ := List.getElem?_of_mem hl
    rw [setH_at hq] at hk
    by_cases e : k = p
    · rw [if_pos e] at hk
      injection hk with hk
      subst hk
      have := hI.good q (List.mem_of_getElem? hq)
      exact ⟨this.t, this.may⟩
    · rw [if_neg e] at hk
      exact hI.good l (List.mem_of_getElem? hk)
  · rw [setH_at hq] at ha hb
    by_cases e : i = p
    · rw [if_pos e] at ha
      injection ha with ha
      subst ha
      cases h1
    · by_cases e' : j = p
      · rw [if_pos e'] at hb
        injection hb with hb
        subst hb
        cases h2
      · rw [if_neg e] at ha
        rw [if_neg e'] at hb
        exact hI.one i j a b ha hb h1 h2 h3
  · rw [setH_at hq] at ha hb
    by_cases e : i = p
    · rw [if_pos e] at ha
      injection ha with ha
      subst ha
      by_cases e' : k = p
      · rw [if_pos e'] at hb
        injection hb with hb
        subst hb
        simp at h3
      · rw [if_neg e'] at hb
        refine hno k b hb h2 h3 ?_ (by rw [meetM_symm]; exact h5)
        rw [conM_symm (hm b (List.mem_of_getElem? hb)) (hm q (List.mem_of_getElem? hq))]
        exact h4
    · rw [if_neg e] at ha
      by_cases e' : k = p
      · rw [if_pos e'] at hb
        injection hb with hb
        subst hb
        refine hno i a ha h1 ?_ h4 h5
        have : a.t ≠ q.t := by simpa using h3
        simpa using fun e => this e.symm
      · rw [if_neg e'] at hb
        exact hI.apart i k a b ha hb h1 h2 h3 h4 h5
end Go.Proofs.YtlblgfpafdfilaaDoor
