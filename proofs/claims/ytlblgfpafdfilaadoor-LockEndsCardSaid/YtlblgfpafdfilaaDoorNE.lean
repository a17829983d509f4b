/-
  STAGE 12: rings, as mathematics: Victim.
-/
import Derived.Test.YtlblgfpafdfilaaDoorND
namespace Go.Proofs.YtlblgfpafdfilaaDoor
open Go.RowKit Go.Sort

theorem count_pos {s : FSt} {p : Nat} (hp : p < s.N.length) (h0 : nu s p = 0) : 0 < s.N.count 0 := by
  have hx : s.N[p] = 0 := by
    unfold nu at h0
    rw [List.getD_eq_getElem?_getD, List.getElem?_eq_getElem hp] at h0
    exact h0
  exact List.count_pos_iff.2 (hx ▸ List.getElem_mem hp)
theorem follow_ok {ls : List LK} (hlen : ls.length ≤ 16384) : ∀ (f : Nat) (G : List Nat), Goes ls f G (followM ls f)
  | 0, G => fun r s h hr h0 _ hc => by have := count_pos (by rw [h.nl]; exact hr) h0; omega
  | f + 1, G => fun r s h hr h0 hG hc => by
    have hcp := count_pos (by rw [h.nl]; exact hr) h0
    have hcn := h.cnt
    have hm : s.m < 16384 := by omega
    have hL0 := start_ok h hr h0 hG hm
    have hc0 := hL0.wt.cnt
    obtain ⟨x, hx, hL, _⟩ := loop_ok h hr hG hL0 (follow_ok hlen f (r :: G)) (by simp only at hc0 ⊢; omega) ls.length (Nat.le_refl _)
    unfold followM
    rw [if_neg (by omega), hx]
    show ∃ s' low, endM ls (s.m + 1) s.O.length x = some (s', low) ∧ _
    unfold endM
    by_cases hlt : x.2 < s.m + 1
    · rw [if_pos hlt]
      exact ⟨x.1, x.2, rfl, end_open h hr hL hlt⟩
    · rw [if_neg hlt]
      obtain ⟨S, hS, hex⟩ := hL.sub
      have hl : x.1.O.length - s.O.length = (r :: S).length := by rw [hS, List.length_append]; omega
      rw [if_neg (by rw [hS, List.length_append, List.length_cons]; omega), hl]
      have hd : x.1.O.drop s.O.length = r :: S := by rw [hS]; simp
      have ht : x.1.O.take s.O.length = s.O := by rw [hS]; simp
      rw [hd, ht]
      exact ⟨_, _, rfl, end_close h hr hL hlt S hS hex⟩
theorem begin_ok (ls : List LK) : WT ls ⟨List.replicate ls.length 0, [], 0, 0⟩ [] := by
  have hn : ∀ y, nu ⟨List.replicate ls.length 0, [], 0, 0⟩ y = 0 := fun y => by
    unfold nu
    rw [List.getD_eq_getElem?_getD, List.getElem?_replicate]
    split <;> rfl
  have hc : (0 : Nat) ≠ closedN := by unfold closedN; omega
  refine ⟨by simp, by simp, by simp, (fun p hp => by cases hp), fun p _ h => absurd (hn p) h, List.Pairwise.nil, fun p r _ h => ?_, (fun p r hp => by cases hp), (fun x hx => by cases hx), (fun y hy => by cases hy), (fun g hg => by cases hg), Or.inl rfl, fun p _ h => ?_⟩
  · rw [hn] at h; exact absurd h hc
  · rw [hn] at h; exact absurd h hc
theorem rings_ok {ls : List LK} (hlen : ls.length ≤ 16384) : ∀ k, k ≤ ls.length → ∃ s, ringsM ls (ls.length + 1) k = some s ∧ WT ls s [] ∧ ∀ p, p < k → (ls.getD p okz).h = false → nu s p ≠ 0
  | 0, _ => ⟨_, rfl, begin_ok ls, fun p hp => absurd hp (Nat.not_lt_zero p)⟩
  | k + 1, hk => by
    obtain ⟨s, hs, hw, hv⟩ := rings_ok hlen k (by omega)
    unfold ringsM
    rw [hs]
    show ∃ s', (if ((ls.getD k okz).h = false ∧ s.N.getD k 0 = 0) then (followM ls (ls.length + 1) k s).map Prod.fst else some s) = some s' ∧ _
    by_cases hc : ((ls.getD k okz).h = false ∧ s.N.getD k 0 = 0)
    · rw [if_pos hc]
      have hcn := hw.cnt
      obtain ⟨s', low, hf, hP⟩ := follow_ok hlen (ls.length + 1) [] k s hw (by omega) hc.2 (fun g hg => by cases hg) (by omega)
      refine ⟨s', by rw [hf]; rfl, hP.wt, fun p hp hh => ?_⟩
      rcases Nat.lt_or_ge p k with h | h
      · rw [hP.keep p (hv p h hh)]; exact hv p h hh
      · obtain rfl : p = k := by omega
        rcases hP.pv with h | h
        · rw [h]; unfold closedN; omega
        · omega
    · rw [if_neg hc]
      refine ⟨s, rfl, hw, fun p hp hh => ?_⟩
      rcases Nat.lt_or_ge p k with h | h
      · exact hv p h hh
      · obtain rfl : p = k := by omega
        exact fun h0 => hc ⟨hh, h0⟩
theorem WT.none_open {ls : List LK} {s : FSt} (h : WT ls s []) : s.O = [] := by
  match hO : s.O with
  | [] => rfl
  | y :: r =>
    obtain ⟨g, hg, _⟩ := h.gr y (by rw [hO]; exact List.mem_cons_self)
    cases hg
/-- what Victim says -/
theorem rings_all {ls : List LK} (hlen : ls.length ≤ 16384) : ∃ s, ringsM ls (ls.length + 1) ls.length = some s ∧ (s.v = 0 ∨ ∃ p, p < ls.length ∧ Ring ls p ∧ s.v = tx ls p) ∧ ∀ p, p < ls.length → (ls.getD p okz).h = false → Ring ls p → tx ls p ≤ s.v := by
  obtain ⟨s, hs, hw, hv⟩ := rings_ok hlen ls.length (Nat.le_refl _)
  refine ⟨s, hs, hw.v1.imp id fun ⟨p, hp, _, hr, h⟩ => ⟨p, hp, hr, h⟩, fun p hp hh hr => ?_⟩
  rcases hw.vis p hp (hv p hp hh) with h | h
  · rw [hw.none_open] at h; cases h
  · exact hw.v2 p hp h hr
end Go.Proofs.YtlblgfpafdfilaaDoor
