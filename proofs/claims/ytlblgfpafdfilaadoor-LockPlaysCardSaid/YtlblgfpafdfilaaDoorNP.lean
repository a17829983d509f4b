/-
STAGE 12: the program's pairs are the document's, in the same order (mathematics).
-/
import Derived.Test.YtlblgfpafdfilaaDoorNI
import Derived.Test.YtlblgfpafdfilaaDoorNN
namespace Go.Proofs.YtlblgfpafdfilaaDoor
open Go.RowKit Go.Sort

theorem rwaits_iff (ls : List LK) (a b : Nat) : (a, b) ∈ rwaitsM ls ↔ Wt ls a b := by
  unfold rwaitsM
  rw [(rwTo_ss ls ls.length).2]
  constructor
  · rintro ⟨p, hp, hh, ht, hb⟩
    obtain ⟨k, hk, hw, hb⟩ := (forTo_mem ls _ p b ls.length).1 hb
    have hq : ls[p]? = some ls[p] := List.getElem?_eq_getElem hp
    have hl : ls[k]? = some ls[k] := List.getElem?_eq_getElem hk
    rw [getD_of hq] at hh ht hw
    rw [getD_of hl] at hw hb
    exact ⟨p, k, _, _, hq, hh, hl, hw, ht, hb⟩
  · rintro ⟨p, k, q, l, hq, hh, hl, hw, ht, hb⟩
    refine ⟨p, (List.getElem?_eq_some_iff.1 hq).1, by rw [getD_of hq]; exact hh, by rw [getD_of hq]; exact ht, ?_⟩
    refine (forTo_mem ls _ p b ls.length).2 ⟨k, (List.getElem?_eq_some_iff.1 hl).1, ?_, by rw [getD_of hl]; exact hb⟩
    rw [getD_of hq, getD_of hl]
    exact hw
theorem inM_ss (ls : List LK) (q : LK) (p : Nat) : ∀ (r : List Nat) (st : List (Nat × Nat) × Nat), r.Pairwise (fun o o' => (ls.getD o okz).t ≤ (ls.getD o' okz).t) → (∀ o ∈ r, st.2 ≤ (ls.getD o okz).t) → SS st.1 → (∀ z ∈ st.1, z.1 < q.t ∨ (z.1 = q.t ∧ z.2 ≤ st.2)) → SS (r.foldl (inM ls q p) st).1 ∧ ∀ z ∈ (r.foldl (inM ls q p) st).1, z.1 < q.t ∨ z.1 = q.t
  | [], st, _, _, h, k => ⟨h, fun z hz => (k z hz).imp id fun h => h.1⟩
  | o :: r, st, hr, ho, h, k => by
    obtain ⟨h1, h2⟩ := List.pairwise_cons.1 hr
    rw [List.foldl_cons]
    have hge := ho o (by simp)
    unfold inM
    split
    · rename_i hc
      rw [Bool.and_eq_true] at hc
      have hne : (ls.getD o okz).t ≠ st.2 := by simpa using hc.1
      have hlt : st.2 < (ls.getD o okz).t := by omega
      refine inM_ss ls q p r _ h2 (fun o' ho' => h1 o' ho') ?_ fun z hz => ?_
      · unfold SS
        rw [List.pairwise_append]
        refine ⟨h, by simp, fun a ha b hb => ?_⟩
        rw [List.mem_singleton.1 hb, ltP_iff]
        have := k a ha
        simp only
        omega
      · rcases List.mem_append.1 hz with hz | hz
        · have := k z hz
          simp only
          omega
        · rw [List.mem_singleton.1 hz]
          exact Or.inr ⟨rfl, Nat.le_refl _⟩
    · exact inM_ss ls q p r st h2 (fun o' ho' => ho o' (List.mem_cons_of_mem _ ho')) h k
theorem outM_ss (ls : List LK) (pl : List Nat) (hpl : pl.Pairwise (fun o o' => (ls.getD o okz).t ≤ (ls.getD o' okz).t)) : ∀ (r : List Nat) (acc : List (Nat × Nat)), r.Pairwise (fun o o' => (ls.getD o okz).h = false → (ls.getD o' okz).h = false → (ls.getD o okz).t < (ls.getD o' okz).t) → SS acc → (∀ z ∈ acc, ∀ o ∈ r, (ls.getD o okz).h = false → z.1 < (ls.getD o okz).t) → SS (r.foldl (outM ls pl) acc)
  | [], _, _, h, _ => h
  | o :: r, acc, hr, h, k => by
    obtain ⟨h1, h2⟩ := List.pairwise_cons.1 hr
    rw [List.foldl_cons]
    unfold outM
    split
    · exact outM_ss ls pl hpl r acc h2 h fun z hz o' ho' => k z hz o' (List.mem_cons_of_mem _ ho')
    · rename_i hh
      have hh' : (ls.getD o okz).h = false := by simpa using hh
      have hs := inM_ss ls (ls.getD o okz) o pl (acc, 0) hpl (fun _ _ => Nat.zero_le _) h fun z hz => Or.inl (k z hz o (by simp) hh')
      refine outM_ss ls pl hpl r _ h2 hs.1 fun z hz o' ho' ho2 => ?_
      have h3 := h1 o' ho' hh' ho2
      rcases hs.2 z hz with h | h <;> omega
theorem Rises.pw {ls : List LK} {pl : List Nat} (h : Rises ls pl) : pl.Pairwise fun o o' => (ls.getD o okz).t ≤ (ls.getD o' okz).t := by
  rw [List.pairwise_iff_getElem]
  intro i j hi hj hij
  exact h.2 i j _ _ hij (List.getElem?_eq_getElem hi) (List.getElem?_eq_getElem hj)
/-- the program's pairs are the document's -/
theorem waits_same {ls : List LK} (hI : Inv ls) {pl : List Nat} (hr : Rises ls pl) : waitsM ls pl = rwaitsM ls := by
  refine ss_same _ _ ?_ (rwTo_ss ls ls.length).1 fun z => ?_
  · refine outM_ss ls pl hr.pw pl [] ?_ List.Pairwise.nil (fun z hz => by simp at hz)
    have hnd : pl.Nodup := hr.1.nodup_iff.2 List.nodup_range
    have hb := hr.pw.and hnd
    refine hb.imp_of_mem fun {o o'} ho ho' h h1 h2 => ?_
    have hlt : ∀ o ∈ pl, o < ls.length := fun o ho => List.mem_range.1 (hr.1.mem_iff.1 ho)
    have hq : ls[o]? = some (ls[o]'(hlt o ho)) := List.getElem?_eq_getElem _
    have hl : ls[o']? = some (ls[o']'(hlt o' ho')) := List.getElem?_eq_getElem _
    rw [getD_of hq, getD_of hl] at h
    rw [getD_of hq] at h1 ⊢
    rw [getD_of hl] at h2 ⊢
    rcases Nat.lt_or_ge (ls[o]'(hlt o ho)).t (ls[o']'(hlt o' ho')).t with h3 | h3
    · exact h3
    · exact absurd (hI.one o o' _ _ hq hl h1 h2 (by omega)) h.2
  · obtain ⟨a, b⟩ := z
    rw [waits_iff hI hr, rwaits_iff]
end Go.Proofs.YtlblgfpafdfilaaDoor
