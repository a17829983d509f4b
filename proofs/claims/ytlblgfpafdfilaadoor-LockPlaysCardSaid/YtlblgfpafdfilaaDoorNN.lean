/-
STAGE 12: the document's For and Waits (mathematics): the same pairs, in the same order.
-/
import Derived.Test.YtlblgfpafdfilaaDoorLG
namespace Go.Proofs.YtlblgfpafdfilaaDoor
open Go.RowKit

/-- for whom the lock at a place waits, as far as place n -/
def forTo (ls : List LK) (q : LK) (p : Nat) : Nat → List Nat
  | 0 => []
  | k + 1 => if waitM (ls.any (passP q)) q p (ls.getD k okz) k = true then forTo ls q p k ++ [(ls.getD k okz).t] else forTo ls q p k
def forM (ls : List LK) (p : Nat) : List Nat := forTo ls (ls.getD p okz) p ls.length
theorem forTo_nil (ls : List LK) (q : LK) (p : Nat) : ∀ n, forTo ls q p n = [] ↔ freeTo ls q p n = true
  | 0 => by simp [forTo, freeTo]
  | n + 1 => by
    have e : forTo ls q p (n + 1) = if waitM (ls.any (passP q)) q p (ls.getD n okz) n = true then forTo ls q p n ++ [(ls.getD n okz).t] else forTo ls q p n := rfl
    rw [freeTo_succ, Bool.and_eq_true, ← forTo_nil ls q p n, e]
    cases waitM (ls.any (passP q)) q p (ls.getD n okz) n <;> simp
theorem forM_nil (ls : List LK) (p : Nat) : forM ls p = [] ↔ freeM ls p = true := forTo_nil _ _ _ _
theorem forTo_len (ls : List LK) (q : LK) (p : Nat) : ∀ n, (forTo ls q p n).length ≤ n
  | 0 => by simp [forTo]
  | n + 1 => by
    have := forTo_len ls q p n
    unfold forTo
    split
    · rw [List.length_append, List.length_singleton]; omega
    · omega
theorem forTo_mem (ls : List LK) (q : LK) (p a : Nat) : ∀ n, a ∈ forTo ls q p n ↔ ∃ k, k < n ∧ waitM (ls.any (passP q)) q p (ls.getD k okz) k = true ∧ (ls.getD k okz).t = a
  | 0 => by simp [forTo]
  | n + 1 => by
    have ih := forTo_mem ls q p a n
    unfold forTo
    constructor
    · intro h
      split at h
      · rename_i hw
        rcases List.mem_append.1 h with h | h
        · obtain ⟨k, hk, h⟩ := ih.1 h
          exact ⟨k, by omega, h⟩
        · exact ⟨n, by omega, hw, (List.mem_singleton.1 h).symm⟩
      · obtain ⟨k, hk, h⟩ := ih.1 h
        exact ⟨k, by omega, h⟩
    · rintro ⟨k, hk, hw, ha⟩
      by_cases e : k = n
      · subst e
        rw [if_pos hw, ← ha]
        simp
      · have := ih.2 ⟨k, by omega, hw, ha⟩
        split
        · exact List.mem_append_left _ this
        · exact this
/-- the order of pairs -/
def ltP (a b : Nat × Nat) : Bool := decide (a.1 < b.1) || (a.1 == b.1 && decide (a.2 < b.2))
theorem ltP_iff (a b : Nat × Nat) : ltP a b = true ↔ a.1 < b.1 ∨ (a.1 = b.1 ∧ a.2 < b.2) := by
  unfold ltP
  simp
theorem ltP_trans {a b c : Nat × Nat} (h : ltP a b = true) (k : ltP b c = true) : ltP a c = true := by
  rw [ltP_iff] at h k ⊢
  omega
theorem ltP_tot {a b : Nat × Nat} (h : ltP a b = false) (hne : a ≠ b) : ltP b a = true := by
  have h' : ¬ (a.1 < b.1 ∨ (a.1 = b.1 ∧ a.2 < b.2)) := fun e => by rw [(ltP_iff a b).2 e] at h; cases h
  rw [ltP_iff]
  have : ¬ (a.1 = b.1 ∧ a.2 = b.2) := fun e => hne (Prod.ext e.1 e.2)
  omega
theorem ltP_irr (a : Nat × Nat) : ltP a a = false := by unfold ltP; simp
def SS (l : List (Nat × Nat)) : Prop := l.Pairwise fun a b => ltP a b = true
theorem ss_same : ∀ l m : List (Nat × Nat), SS l → SS m → (∀ z, z ∈ l ↔ z ∈ m) → l = m
  | [], [], _, _, _ => rfl
  | [], b :: m, _, _, h => by have := (h b).2 (by simp); simp at this
  | a :: l, [], _, _, h => by have := (h a).1 (by simp); simp at this
  | a :: l, b :: m, hl, hm, h => by
    obtain ⟨ha, hl2⟩ := List.pairwise_cons.1 hl
    obtain ⟨hb, hm2⟩ := List.pairwise_cons.1 hm
    clear hl hm
    have e : a = b := by
      by_cases e : a = b
      · exact e
      · exfalso
        have h1 : a ∈ m := (List.mem_cons.1 ((h a).1 (by simp))).resolve_left e
        have h2 : b ∈ l := (List.mem_cons.1 ((h b).2 (by simp))).resolve_left (fun e' => e e'.symm)
        have := ltP_trans (ha b h2) (hb a h1)
        rw [ltP_irr] at this
        cases this
    subst e
    have hn : ∀ x : List (Nat × Nat), (∀ z ∈ x, ltP a z = true) → a ∉ x := fun x hx hax => by
      have := hx a hax
      rw [ltP_irr] at this
      cases this
    rw [ss_same l m hl2 hm2 fun z => by
      have := h z
      rw [List.mem_cons, List.mem_cons] at this
      constructor
      · intro hz
        exact (this.1 (Or.inr hz)).resolve_left fun e => hn l ha (by rw [← e]; exact hz)
      · intro hz
        exact (this.2 (Or.inr hz)).resolve_left fun e => hn m hb (by rw [← e]; exact hz)]
/-- where a pair belongs -/
def atTo (l : List (Nat × Nat)) (p : Nat × Nat) : Nat → Nat
  | 0 => 0
  | i + 1 => if ltP (l.getD i (0, 0)) p = true then i + 1 else atTo l p i
def withM (l : List (Nat × Nat)) (p : Nat × Nat) : List (Nat × Nat) := if p ∈ l then l else l.take (atTo l p l.length) ++ [p] ++ l.drop (atTo l p l.length)
theorem atTo_le (l : List (Nat × Nat)) (p : Nat × Nat) : ∀ n, atTo l p n ≤ n
  | 0 => Nat.le_refl _
  | n + 1 => by
    have := atTo_le l p n
    unfold atTo
    split <;> omega
theorem atTo_lt (l : List (Nat × Nat)) (p : Nat × Nat) : ∀ n, 0 < atTo l p n → ltP (l.getD (atTo l p n - 1) (0, 0)) p = true
  | 0, h => absurd h (Nat.lt_irrefl _)
  | n + 1, h => by
    unfold atTo at h ⊢
    split
    · rename_i hw
      rw [Nat.add_sub_cancel]; exact hw
    · rename_i hw
      rw [if_neg hw] at h
      exact atTo_lt l p n h
theorem atTo_ge (l : List (Nat × Nat)) (p : Nat × Nat) : ∀ n i, atTo l p n ≤ i → i < n → ltP (l.getD i (0, 0)) p = false
  | 0, i, _, h => absurd h (Nat.not_lt_zero _)
  | n + 1, i, h1, h2 => by
    unfold atTo at h1
    split at h1
    · omega
    · rename_i hw
      by_cases e : i = n
      · rw [e]; simpa using hw
      · exact atTo_ge l p n i h1 (by omega)
theorem getD_of2 {l : List (Nat × Nat)} {i : Nat} {x d : Nat × Nat} (h : l[i]? = some x) : l.getD i d = x := by
  rw [List.getD_eq_getElem?_getD, h]; rfl
theorem with_ss {l : List (Nat × Nat)} (h : SS l) (p : Nat × Nat) : SS (withM l p) ∧ ∀ z, z ∈ withM l p ↔ z ∈ l ∨ z = p := by
  unfold withM
  split
  · rename_i hp
    exact ⟨h, fun z => ⟨Or.inl, fun hz => hz.elim id fun e => by rw [e]; exact hp⟩⟩
  · rename_i hp
    have hle := atTo_le l p l.length
    have hlt := atTo_lt l p l.length
    have hge := atTo_ge l p l.length
    generalize atTo l p l.length = k at hle hlt hge
    have hpw := List.pairwise_iff_getElem.1 h
    have hA : ∀ a ∈ l.take k, ltP a p = true := fun a ha => by
      obtain ⟨i, hi⟩ := List.getElem?_of_mem ha
      have hik : i < k := by
        have := (List.getElem?_eq_some_iff.1 hi).1
        rw [List.length_take] at this
        omega
      rw [List.getElem?_take_of_lt hik] at hi
      have hlast := hlt (by omega)
      have hx : l[k - 1]? = some (l[k - 1]'(by omega)) := List.getElem?_eq_getElem _
      rw [getD_of2 hx] at hlast
      obtain ⟨hil, e⟩ := List.getElem?_eq_some_iff.1 hi
      by_cases e2 : i = k - 1
      · subst e2; rw [← e]; exact hlast
      · have := hpw i (k - 1) hil (by omega) (by omega)
        rw [e] at this
        exact ltP_trans this hlast
    have hB : ∀ b ∈ l.drop k, ltP p b = true := fun b hb => by
      obtain ⟨i, hi⟩ := List.getElem?_of_mem hb
      rw [List.getElem?_drop] at hi
      have hil := (List.getElem?_eq_some_iff.1 hi).1
      have := hge (k + i) (by omega) hil
      rw [getD_of2 hi] at this
      exact ltP_tot this fun e => hp (by rw [← e]; exact List.mem_of_getElem? hi)
    constructor
    · unfold SS
      rw [List.append_assoc, List.pairwise_append]
      refine ⟨List.Pairwise.sublist (List.take_sublist _ _) h, ?_, fun a ha b hb => ?_⟩
      · rw [List.singleton_append, List.pairwise_cons]
        exact ⟨hB, List.Pairwise.sublist (List.drop_sublist _ _) h⟩
      · rw [List.singleton_append, List.mem_cons] at hb
        rcases hb with rfl | hb
        · exact hA a ha
        · exact ltP_trans (hA a ha) (hB b hb)
    · intro z
      have : z ∈ l ↔ z ∈ l.take k ∨ z ∈ l.drop k := by
        conv => lhs; rw [← List.take_append_drop k l]
        exact List.mem_append
      rw [this, List.append_assoc, List.mem_append, List.singleton_append, List.mem_cons]
      constructor
      · rintro (h | h | h)
        · exact Or.inl (Or.inl h)
        · exact Or.inr h
        · exact Or.inl (Or.inr h)
      · rintro ((h | h) | h)
        · exact Or.inl h
        · exact Or.inr (Or.inr h)
        · exact Or.inr (Or.inl h)
theorem with_len (l : List (Nat × Nat)) (p : Nat × Nat) : (withM l p).length ≤ l.length + 1 := by
  unfold withM
  split
  · omega
  · simp only [List.length_append, List.length_take, List.length_drop, List.length_singleton]
    omega
/-- the pairs of one place -/
def pairsM (t : Nat) (xs : List Nat) (acc : List (Nat × Nat)) : List (Nat × Nat) := xs.foldl (fun a x => withM a (t, x)) acc
theorem pairs_ss (t : Nat) : ∀ (xs : List Nat) (acc : List (Nat × Nat)), SS acc → SS (pairsM t xs acc) ∧ ∀ z, z ∈ pairsM t xs acc ↔ z ∈ acc ∨ ∃ x ∈ xs, z = (t, x)
  | [], acc, h => ⟨h, fun z => by simp [pairsM]⟩
  | x :: r, acc, h => by
    have hw := with_ss h (t, x)
    have ih := pairs_ss t r (withM acc (t, x)) hw.1
    refine ⟨ih.1, fun z => ?_⟩
    show z ∈ pairsM t r (withM acc (t, x)) ↔ _
    rw [ih.2 z, hw.2 z]
    constructor
    · rintro ((h | h) | ⟨y, hy, h⟩)
      · exact Or.inl h
      · exact Or.inr ⟨x, by simp, h⟩
      · exact Or.inr ⟨y, by simp [hy], h⟩
    · rintro (h | ⟨y, hy, h⟩)
      · exact Or.inl (Or.inl h)
      · rcases List.mem_cons.1 hy with rfl | hy
        · exact Or.inl (Or.inr h)
        · exact Or.inr ⟨y, hy, h⟩
theorem pairs_len (t : Nat) : ∀ (xs : List Nat) (acc : List (Nat × Nat)), (pairsM t xs acc).length ≤ acc.length + xs.length
  | [], _ => by simp [pairsM]
  | x :: r, acc => by
    have h1 := with_len acc (t, x)
    have h2 := pairs_len t r (withM acc (t, x))
    show (pairsM t r (withM acc (t, x))).length ≤ _
    rw [List.length_cons]
    omega
/-- all pairs, as far as place n -/
def rwTo (ls : List LK) : Nat → List (Nat × Nat)
  | 0 => []
  | i + 1 => if (ls.getD i okz).h = true then rwTo ls i else pairsM (ls.getD i okz).t (forM ls i) (rwTo ls i)
def rwaitsM (ls : List LK) : List (Nat × Nat) := rwTo ls ls.length
theorem rwTo_ss (ls : List LK) : ∀ n, SS (rwTo ls n) ∧ ∀ a b, (a, b) ∈ rwTo ls n ↔ ∃ p, p < n ∧ (ls.getD p okz).h = false ∧ (ls.getD p okz).t = a ∧ b ∈ forM ls p
  | 0 => ⟨List.Pairwise.nil, fun a b => by simp [rwTo]⟩
  | n + 1 => by
    have ih := rwTo_ss ls n
    unfold rwTo
    split
    · rename_i hh
      refine ⟨ih.1, fun a b => ?_⟩
      rw [ih.2]
      constructor
      · rintro ⟨p, hp, h⟩
        exact ⟨p, by omega, h⟩
      · rintro ⟨p, hp, h⟩
        by_cases e : p = n
        · subst e
          rw [hh] at h
          cases h.1
        · exact ⟨p, by omega, h⟩
    · rename_i hh
      have hs := pairs_ss (ls.getD n okz).t (forM ls n) _ ih.1
      refine ⟨hs.1, fun a b => ?_⟩
      rw [hs.2, ih.2]
      constructor
      · rintro (⟨p, hp, h⟩ | ⟨x, hx, h⟩)
        · exact ⟨p, by omega, h⟩
        · injection h with h1 h2
          exact ⟨n, by omega, by simpa using hh, h1.symm, by rw [h2]; exact hx⟩
      · rintro ⟨p, hp, h1, h2, h3⟩
        by_cases e : p = n
        · subst e
          exact Or.inr ⟨b, h3, by rw [h2]⟩
        · exact Or.inl ⟨p, by omega, h1, h2, h3⟩
end Go.Proofs.YtlblgfpafdfilaaDoor
