/-
  STAGE 12: who waits is told by Waits; the document's Meet and Conflict are the program's (mathematics).
-/
import Derived.Test.YtlblgfpafdfilaaDoorMI
import Derived.Test.YtlblgfpafdfilaaDoorMG
namespace Go.Proofs.YtlblgfpafdfilaaDoor
open Go.RowKit Go.Sort

theorem rconM_eq {a b : Int} (ha : 1 ≤ a ∧ a ≤ 4) (hb : 1 ≤ b ∧ b ≤ 4) : rconM a b = conM a b := by
  have h1 : a = 1 ∨ a = 2 ∨ a = 3 ∨ a = 4 := by omega
  have h2 : b = 1 ∨ b = 2 ∨ b = 3 ∨ b = 4 := by omega
  rcases h1 with rfl | rfl | rfl | rfl <;> rcases h2 with rfl | rfl | rfl | rfl <;> rfl
theorem may_plain {x : Th} {m : Int} (h : mayM x m = true) (hr : x.r = false) : emp x.a = true ∧ emp x.b = true := by
  unfold mayM at h
  rw [if_neg (by rw [hr]; exact Bool.false_ne_true)] at h
  simp only [Bool.and_eq_true] at h
  exact ⟨h.1.1.1, h.1.1.2⟩
theorem rmeetM_eq {x y : Th} {m n : Int} (hx : mayM x m = true) (hy : mayM y n = true) : rmeetM x y = meetM x y := by
  have e1 : aheadM x y = belM x.a y.b := rfl
  have e2 : aheadM y x = belM y.a x.b := rfl
  unfold rmeetM meetM
  rw [e1, e2, Bool.and_assoc]
  cases ha : alikeM x y with
  | false => rfl
  | true =>
    rw [Bool.true_and, Bool.true_and]
    cases hr : x.r with
    | true => rfl
    | false =>
      have hyr : y.r = false := by
        unfold alikeM at ha
        rw [hr, Bool.and_eq_true, beq_iff_eq] at ha
        exact ha.1.symm
      have h1 : belM x.a y.b = true := by unfold belM; rw [(may_plain hy hyr).2]; rfl
      have h2 : belM y.a x.b = true := by unfold belM; rw [(may_plain hx hr).2]; rfl
      rw [h1, h2]
      rfl
/-- what apart looks at -/
theorem fine_apart {ls : List LK} (h : Inv ls) {i k : Nat} {a b : LK} (ha : ls[i]? = some a) (hb : ls[k]? = some b) : (a.h && b.h && (a.t != b.t) && rmeetM a.x b.x && rconM a.m b.m) = false := by
  have hga := h.good a (List.mem_of_getElem? ha)
  have hgb := h.good b (List.mem_of_getElem? hb)
  rw [rmeetM_eq hga.may hgb.may, rconM_eq hga.m hgb.m]
  cases hc : (a.h && b.h && (a.t != b.t) && meetM a.x b.x && conM a.m b.m) with
  | false => rfl
  | true =>
    simp only [Bool.and_eq_true] at hc
    exact (h.apart i k a b ha hb hc.1.1.1.1 hc.1.1.1.2 hc.1.1.2 hc.2 hc.1.2).elim
theorem inM_mono (ls : List LK) (q : LK) (p : Nat) (z : Nat × Nat) : ∀ (pl : List Nat) (st : List (Nat × Nat) × Nat), z ∈ st.1 → z ∈ (pl.foldl (inM ls q p) st).1
  | [], _, h => h
  | o :: r, st, h => by
    rw [List.foldl_cons]
    refine inM_mono ls q p z r _ ?_
    unfold inM
    split
    · exact List.mem_append_left _ h
    · exact h
theorem inM_some (ls : List LK) (q : LK) (p o : Nat) (ht : (ls.getD o okz).t ≠ 0) (hw : waitM (ls.any (passP q)) q p (ls.getD o okz) o = true) : ∀ (pl : List Nat) (acc : List (Nat × Nat)), o ∈ pl → ∃ u, (q.t, u) ∈ (pl.foldl (inM ls q p) (acc, 0)).1 ∧ u ≠ q.t
  | [], _, h => by cases h
  | o' :: r, acc, h => by
    rw [List.foldl_cons]
    by_cases hc : ((ls.getD o' okz).t != (acc, 0).2 && waitM (ls.any (passP q)) q p (ls.getD o' okz) o') = true
    · have e : inM ls q p (acc, 0) o' = (acc ++ [(q.t, (ls.getD o' okz).t)], (ls.getD o' okz).t) := by unfold inM; rw [if_pos hc]
      rw [e]
      refine ⟨(ls.getD o' okz).t, inM_mono ls q p _ r _ (by simp), ?_⟩
      rw [Bool.and_eq_true] at hc
      have := hc.2
      unfold waitM at this
      simp only [Bool.and_eq_true] at this
      simpa using this.1.1.2
    · have e : inM ls q p (acc, 0) o' = (acc, 0) := by unfold inM; rw [if_neg hc]
      rw [e]
      refine inM_some ls q p o ht hw r acc ?_
      rcases List.mem_cons.1 h with rfl | h
      · exfalso
        apply hc
        rw [hw, Bool.and_true]
        simpa using ht
      · exact h
theorem outM_mono (ls : List LK) (pl : List Nat) (z : Nat × Nat) : ∀ (l : List Nat) (acc : List (Nat × Nat)), z ∈ acc → z ∈ l.foldl (outM ls pl) acc
  | [], _, h => h
  | p :: r, acc, h => by
    rw [List.foldl_cons]
    refine outM_mono ls pl z r _ ?_
    unfold outM
    split
    · exact h
    · exact inM_mono ls _ p z pl _ h
theorem outM_some (ls : List LK) (pl : List Nat) (p : Nat) (hh : (ls.getD p okz).h = false) (h : ∀ acc, ∃ u, ((ls.getD p okz).t, u) ∈ (inL ls (ls.getD p okz) p pl acc).1 ∧ u ≠ (ls.getD p okz).t) : ∀ (l : List Nat) (acc : List (Nat × Nat)), p ∈ l → ∃ u, ((ls.getD p okz).t, u) ∈ l.foldl (outM ls pl) acc ∧ u ≠ (ls.getD p okz).t
  | [], _, hp => by cases hp
  | p' :: r, acc, hp => by
    rw [List.foldl_cons]
    rcases List.mem_cons.1 hp with rfl | hp
    · obtain ⟨u, hu, hne⟩ := h acc
      refine ⟨u, outM_mono ls pl _ r _ ?_, hne⟩
      unfold outM
      rw [if_neg (by rw [hh]; exact Bool.false_ne_true)]
      exact hu
    · exact outM_some ls pl p hh h r _ hp
/-- who waits is told by Waits -/
theorem fine_waits {ls : List LK} (h : Fine ls) {pl : List Nat} (hr : Rises ls pl) {k : Nat} {l : LK} (hl : ls[k]? = some l) (hh : l.h = false) : ∃ (j u : Nat), (waitsM ls pl)[j]? = some (l.t, u) ∧ u ≠ l.t := by
  have hk := (List.getElem?_eq_some_iff.1 hl).1
  have hmem : ∀ o, o < ls.length → o ∈ pl := fun o ho => hr.1.mem_iff.2 (List.mem_range.2 ho)
  obtain ⟨o, b, hb, hw⟩ := freeM_false hl (h.2 k l hk hl hh)
  have hb' := getD_of hb
  have hl' := getD_of hl
  have hg := h.1.good b (List.mem_of_getElem? hb)
  have hin : ∀ acc, ∃ u, ((ls.getD k okz).t, u) ∈ (inL ls (ls.getD k okz) k pl acc).1 ∧ u ≠ (ls.getD k okz).t := fun acc => by
    rw [hl']
    exact inM_some ls l k o (by rw [hb']; have := hg.t; omega) (by rw [hb']; exact hw) pl acc (hmem o (List.getElem?_eq_some_iff.1 hb).1)
  obtain ⟨u, hu, hne⟩ := outM_some ls pl k (by rw [hl']; exact hh) hin pl [] (hmem k hk)
  rw [hl'] at hu hne
  obtain ⟨j, hj⟩ := List.getElem?_of_mem hu
  exact ⟨j, u, hj, hne⟩
end Go.Proofs.YtlblgfpafdfilaaDoor
