/-
  STAGE 12: what holds of every table that has been played: Release, Ask; what it gives (mathematics).
-/
import Derived.Test.YtlblgfpafdfilaaDoorMH
import Derived.Test.YtlblgfpafdfilaaDoorMA
namespace Go.Proofs.YtlblgfpafdfilaaDoor
open Go.RowKit Go.Sort

theorem Good.m {l : LK} (h : Good l) : 1 ≤ l.m ∧ l.m ≤ 4 := mayM_mode h.may
theorem Inv.ms {ls : List LK} (h : Inv ls) : ∀ l ∈ ls, 1 ≤ l.m ∧ l.m ≤ 4 := fun l hl => (h.good l hl).m
def R1 (a b : LK) : Prop := a.h = false → b.h = false → a.t ≠ b.t
def R2 (a b : LK) : Prop := a.h = true → b.h = true → (a.t != b.t) = true → conM a.m b.m = true → meetM a.x b.x = true → False
theorem Inv.p1 {ls : List LK} (h : Inv ls) : ls.Pairwise R1 := by
  rw [List.pairwise_iff_getElem]
  intro i j hi hj hij h1 h2 h3
  have := h.one i j _ _ (List.getElem?_eq_getElem hi) (List.getElem?_eq_getElem hj) h1 h2 h3
  omega
theorem Inv.p2 {ls : List LK} (h : Inv ls) : ls.Pairwise R2 := by
  rw [List.pairwise_iff_getElem]
  intro i j hi hj hij
  exact h.apart i j _ _ (List.getElem?_eq_getElem hi) (List.getElem?_eq_getElem hj)
theorem Inv.of {ls : List LK} (hg : ∀ l ∈ ls, Good l) (h1 : ls.Pairwise R1) (h2 : ls.Pairwise R2) : Inv ls := by
  rw [List.pairwise_iff_getElem] at h1 h2
  refine ⟨hg, fun i j a b ha hb ah bh e => ?_, fun i k a b ha hb ah bh e c m => ?_⟩
  · obtain ⟨hi, rfl⟩ := List.getElem?_eq_some_iff.1 ha
    obtain ⟨hj, rfl⟩ := List.getElem?_eq_some_iff.1 hb
    rcases Nat.lt_trichotomy i j with h | h | h
    · exact absurd e (h1 i j hi hj h ah bh)
    · exact h
    · exact absurd e.symm (h1 j i hj hi h bh ah)
  · have hga := hg a (List.mem_of_getElem? ha)
    have hgb := hg b (List.mem_of_getElem? hb)
    obtain ⟨hi, rfl⟩ := List.getElem?_eq_some_iff.1 ha
    obtain ⟨hj, rfl⟩ := List.getElem?_eq_some_iff.1 hb
    rcases Nat.lt_trichotomy i k with h | h | h
    · exact h2 i k hi hj h ah bh e c m
    · subst h
      simp at e
    · refine h2 k i hj hi h bh ah ?_ (by rw [conM_symm hgb.m hga.m]; exact c) (by rw [meetM_symm]; exact m)
      have : ls[i].t ≠ ls[k].t := by simpa using e
      simpa using fun e => this e.symm
theorem Inv.kept {ls : List LK} (h : Inv ls) (t : Nat) : Inv (keptM t ls) := Inv.of (fun l hl => h.good l (List.mem_filter.1 hl).1) (h.p1.filter _) (h.p2.filter _)
theorem inv_pass {ls : List LK} (h : Inv ls) : ∀ n, n ≤ ls.length → Inv (passM ls n).1 ∧ Stuck (passM ls n).1 n
  | 0, _ => ⟨h, fun p q hp => absurd hp (Nat.not_lt_zero p)⟩
  | n + 1, hn => by
    obtain ⟨hI, hS⟩ := inv_pass h n (by omega)
    have hl := (passM_len ls n).1
    have hq : (passM ls n).1[n]? = some ((passM ls n).1[n]'(by omega)) := List.getElem?_eq_getElem _
    generalize (passM ls n).1[n]'(by omega) = q at hq
    rw [passM_succ]
    unfold relS
    rw [getD_of hq]
    cases hh : q.h with
    | true =>
      rw [if_pos rfl]
      refine ⟨hI, fun p a hp ha hah => ?_⟩
      rcases Nat.lt_or_ge p n with h' | h'
      · exact hS p a h' ha hah
      · obtain rfl : p = n := by omega
        rw [hq] at ha
        injection ha with ha
        subst ha
        rw [hh] at hah
        cases hah
    | false =>
      rw [if_neg Bool.false_ne_true]
      cases hf : freeM (passM ls n).1 n with
      | true =>
        refine ⟨hI.hold hq hI.ms hf, fun p a hp ha hah => ?_⟩
        rw [setH_at hq] at ha
        by_cases e : p = n
        · rw [if_pos e] at ha
          injection ha with ha
          subst ha
          cases hah
        · rw [if_neg e] at ha
          exact stuck_hold hq hh hI ha hah e (hS p a (by omega) ha hah)
      | false =>
        have hs : setH (passM ls n).1 n false = (passM ls n).1 := by
          have := setH_same hq
          rwa [hh] at this
        simp only
        rw [hs]
        refine ⟨hI, fun p a hp ha hah => ?_⟩
        rcases Nat.lt_or_ge p n with h' | h'
        · exact hS p a h' ha hah
        · obtain rfl : p = n := by omega
          exact hf
/-- a table that has been played -/
def Fine (ls : List LK) : Prop := Inv ls ∧ Stuck ls ls.length
theorem fine_nil : Fine [] := ⟨⟨(fun l hl => by cases hl), (fun i j a b ha => by simp at ha), (fun i k a b ha => by simp at ha)⟩, fun p q hp => absurd hp (Nat.not_lt_zero p)⟩
theorem fine_release {ls : List LK} (h : Fine ls) (t : Nat) : Fine (releaseM t ls).1 := by
  have := inv_pass (h.1.kept t) _ (Nat.le_refl _)
  unfold releaseM
  refine ⟨this.1, ?_⟩
  rw [(passM_len _ _).1]
  exact this.2
theorem app_at {ls : List LK} {y : LK} {k : Nat} {l : LK} (h : (ls ++ [y])[k]? = some l) : (k < ls.length ∧ ls[k]? = some l) ∨ (k = ls.length ∧ l = y) := by
  rcases Nat.lt_or_ge k ls.length with hk | hk
  · rw [List.getElem?_append_left hk] at h
    exact Or.inl ⟨hk, h⟩
  · rw [List.getElem?_append_right hk] at h
    right
    have h0 : k - ls.length = 0 := by
      rcases Nat.eq_zero_or_pos (k - ls.length) with h0 | h0
      · exact h0
      · rw [List.getElem?_eq_none (by simp; omega)] at h; cases h
    rw [h0] at h
    simp at h
    exact ⟨by omega, h.symm⟩
theorem at_app {ls : List LK} {y : LK} {k : Nat} {l : LK} (h : ls[k]? = some l) : (ls ++ [y])[k]? = some l := by rw [List.getElem?_append_left (List.getElem?_eq_some_iff.1 h).1]; exact h
theorem at_last (ls : List LK) (y : LK) : (ls ++ [y])[ls.length]? = some y := by simp
/-- one more that waits -/
theorem fine_app {ls : List LK} (h : Fine ls) {y : LK} (hy : Good y) (hh : y.h = false) (hw : ls.any (waitsP y.t) = false) : Inv (ls ++ [y]) ∧ Stuck (ls ++ [y]) ls.length := by
  have hno : ∀ a ∈ ls, a.h = false → a.t ≠ y.t := fun a ha h1 e => by
    have : ls.any (waitsP y.t) = true := List.any_eq_true.2 ⟨a, ha, by unfold waitsP; rw [h1, e]; simp⟩
    rw [hw] at this
    cases this
  refine ⟨⟨fun l hl => ?_, fun i j a b ha hb h1 h2 h3 => ?_, fun i k a b ha hb h1 h2 h3 h4 h5 => ?_⟩, fun p q hp hq hqh => ?_⟩
  · rcases List.mem_append.1 hl with hl | hl
    · exact h.1.good l hl
    · rw [List.mem_singleton.1 hl]; exact hy
  · rcases app_at ha with ⟨_, ha'⟩ | ⟨ei, ea⟩ <;> rcases app_at hb with ⟨_, hb'⟩ | ⟨ej, eb⟩
    · exact h.1.one i j a b ha' hb' h1 h2 h3
    · rw [eb] at h3; exact absurd h3 (hno a (List.mem_of_getElem? ha') h1)
    · rw [ea] at h3; exact absurd h3.symm (hno b (List.mem_of_getElem? hb') h2)
    · omega
  · rcases app_at ha with ⟨_, ha'⟩ | ⟨ei, ea⟩
    · rcases app_at hb with ⟨_, hb'⟩ | ⟨ej, eb⟩
      · exact h.1.apart i k a b ha' hb' h1 h2 h3 h4 h5
      · rw [eb, hh] at h2; cases h2
    · rw [ea, hh] at h1; cases h1
  · rcases app_at hq with ⟨_, hq'⟩ | ⟨rfl, _⟩
    · obtain ⟨k, l, hl, hw'⟩ := freeM_false hq' (h.2 p q hp hq' hqh)
      refine freeM_of hq (k := k) (l := l) (at_app hl) ?_
      rw [List.any_append]
      have : passP q y = false := by unfold passP; rw [hh]; simp
      simp only [List.any_cons, List.any_nil, this, Bool.or_false]
      exact hw'
    · omega
/-- and, where it is free, holds -/
theorem fine_hold {L : List LK} {y : LK} {n : Nat} (hn : L.length = n + 1) (hy : L[n]? = some y) (hh : y.h = false) (hI : Inv L) (hS : Stuck L n) : Fine (setH L n (freeM L n)) := by
  cases hf : freeM L n with
  | true =>
    refine ⟨hI.hold hy hI.ms hf, fun p a hp ha hah => ?_⟩
    rw [setH_len, hn] at hp
    rw [setH_at hy] at ha
    by_cases e : p = n
    · rw [if_pos e] at ha
      injection ha with ha
      subst ha
      cases hah
    · rw [if_neg e] at ha
      exact stuck_hold hy hh hI ha hah e (hS p a (by omega) ha hah)
  | false =>
    have hs : setH L n false = L := by
      have := setH_same hy
      rwa [hh] at this
    rw [hs]
    refine ⟨hI, fun p a hp ha hah => ?_⟩
    rcases Nat.lt_or_ge p n with h' | h'
    · exact hS p a h' ha hah
    · obtain rfl : p = n := by omega
      exact hf
theorem liesM_self (x : Th) : liesM x x = true := by
  unfold liesM alikeM
  rw [slt_self, slt_self]
  cases emp x.b <;> simp
theorem hasP_self {l : LK} (hg : Good l) (hh : l.h = true) : hasP l.t l.x l.m l = true := by
  unfold hasP
  rw [hh, covM_self hg.m, liesM_self]
  simp
/-- what is held is told by Has -/
theorem has_held {ls : List LK} (h : Inv ls) {k : Nat} {l : LK} (hl : ls[k]? = some l) (hh : l.h = true) : hasM l.t l.x l.m ls = true := by
  have hm := List.mem_of_getElem? hl
  have hg := h.good l hm
  unfold hasM
  rw [hg.may, Bool.true_and, List.any_eq_true]
  exact ⟨l, hm, hasP_self hg hh⟩
/-- Ask: the table stays fine, and what it says is what Has says -/
theorem fine_ask {ls : List LK} (h : Fine ls) (t : Nat) (x : Th) (m : Int) : Fine (askM t x m ls).2 ∧ ((askM t x m ls).1.2 = 0 → (askM t x m ls).1.1 = hasM t x m (askM t x m ls).2) := by
  unfold askM
  split
  · exact ⟨h, fun e => by simp at e⟩
  · rename_i h1
    split
    · exact ⟨h, fun e => by simp at e⟩
    · rename_i h2
      split
      · rename_i h3
        exact ⟨h, fun _ => h3.symm⟩
      · rename_i h3
        split
        · exact ⟨h, fun e => by simp at e⟩
        · rw [Bool.not_eq_true, Bool.or_eq_false_iff, Bool.not_eq_false'] at h1
          have ht : 1 ≤ t := by
            have h0 : t ≠ 0 := by simpa using h1.1
            omega
          have hg : Good ⟨t, x, m, false⟩ := ⟨ht, h1.2⟩
          have hA := fine_app h hg rfl (by simpa using h2)
          have hF := fine_hold (by simp) (at_last ls ⟨t, x, m, false⟩) rfl hA.1 hA.2
          refine ⟨hF, fun _ => ?_⟩
          have hy := at_last ls ⟨t, x, m, false⟩
          simp only
          cases hf : freeM (ls ++ [⟨t, x, m, false⟩]) ls.length with
          | true =>
            rw [hf] at hF
            have := has_held hF.1 (k := ls.length) (l := ⟨t, x, m, true⟩) (by rw [setH_at hy, if_pos rfl]) rfl
            exact this.symm
          | false =>
            have hs := setH_same hy
            simp only at hs
            rw [hs]
            have h3' : hasM t x m ls = false := by simpa using h3
            unfold hasM at h3' ⊢
            rw [h1.2, Bool.true_and] at h3' ⊢
            rw [List.any_append, h3']
            unfold hasP
            simp
end Go.Proofs.YtlblgfpafdfilaaDoor
