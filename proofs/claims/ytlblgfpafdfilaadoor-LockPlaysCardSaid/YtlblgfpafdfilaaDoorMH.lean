/-
STAGE 12: what holds of every table that has been played (mathematics). STAGE 12: what holds of every table that has been played: Release, Ask; what it gives (mathematics). STAGE 12: who waits is told by Waits; the document's Meet and Conflict are the program's (mathematics).
-/
import Derived.Test.YtlblgfpafdfilaaDoorMF
import Derived.Test.YtlblgfpafdfilaaDoorMA
import Derived.Test.YtlblgfpafdfilaaDoorMG
namespace Go.Proofs.YtlblgfpafdfilaaDoor
open Go.RowKit Go.Sort

/-- a lock that was let in -/
structure Good (l : LK) : Prop where
  t : 1 ≤ l.t
  may : mayM l.x l.m = true
/-- whether one lock is that of another one, but held -/
def Up (l l' : LK) : Prop := l'.t = l.t ∧ l'.x = l.x ∧ l'.m = l.m ∧ (l.h = true → l'.h = true)
structure Inv (ls : List LK) : Prop where
  good : ∀ l ∈ ls, Good l
  /-- who waits, waits for one lock -/
  one : ∀ (i j : Nat) (a b : LK), ls[i]? = some a → ls[j]? = some b → a.h = false → b.h = false → a.t = b.t → i = j
  /-- what is held doesn't conflict -/
  apart : ∀ (i k : Nat) (a b : LK), ls[i]? = some a → ls[k]? = some b → a.h = true → b.h = true → (a.t != b.t) = true → conM a.m b.m = true → meetM a.x b.x = true → False
/-- who waits isn't free -/
def Stuck (ls : List LK) (n : Nat) : Prop := ∀ (p : Nat) (q : LK), p < n → ls[p]? = some q → q.h = false → freeM ls p = false

theorem meetM_symm (a b : Th) : meetM a b = meetM b a := by
  have e1 : alikeM a b = alikeM b a := by
    unfold alikeM
    rw [Bool.beq_comm (a := a.r), show (a.i == b.i) = (b.i == a.i) from BEq.comm]
  unfold meetM
  rw [e1, Bool.and_assoc, Bool.and_assoc, Bool.and_comm (aheadM a b)]
theorem conM_symm {a b : Int} (ha : 1 ≤ a ∧ a ≤ 4) (hb : 1 ≤ b ∧ b ≤ 4) : conM a b = conM b a := by
  have h1 : a = 1 ∨ a = 2 ∨ a = 3 ∨ a = 4 := by omega
  have h2 : b = 1 ∨ b = 2 ∨ b = 3 ∨ b = 4 := by omega
  rcases h1 with rfl | rfl | rfl | rfl <;> rcases h2 with rfl | rfl | rfl | rfl <;> rfl
theorem covM_self {a : Int} (ha : 1 ≤ a ∧ a ≤ 4) : covM a a = true := by
  have h1 : a = 1 ∨ a = 2 ∨ a = 3 ∨ a = 4 := by omega
  rcases h1 with rfl | rfl | rfl | rfl <;> rfl
theorem freeM_true {ls : List LK} {p : Nat} {q : LK} (hq : ls[p]? = some q) : freeM ls p = true ↔ ∀ k l, ls[k]? = some l → waitM (ls.any (passP q)) q p l k = false := by
  unfold freeM freeTo
  rw [getD_of hq, List.all_eq_true]
  constructor
  · intro h k l hl
    have := h k (List.mem_range.2 (List.getElem?_eq_some_iff.1 hl).1)
    rw [getD_of hl] at this
    simpa using this
  · intro h k hk
    have hk := List.mem_range.1 hk
    have hl : ls[k]? = some ls[k] := List.getElem?_eq_getElem hk
    rw [getD_of hl, h k _ hl]
    rfl
theorem freeM_false {ls : List LK} {p : Nat} {q : LK} (hq : ls[p]? = some q) (h : freeM ls p = false) : ∃ k l, ls[k]? = some l ∧ waitM (ls.any (passP q)) q p l k = true := by
  by_cases hx : ∃ k l, ls[k]? = some l ∧ waitM (ls.any (passP q)) q p l k = true
  · exact hx
  · exfalso
    have := (freeM_true hq).2 fun k l hl => by
      cases hw : waitM (ls.any (passP q)) q p l k with
      | false => rfl
      | true => exact absurd ⟨k, l, hl, hw⟩ hx
    rw [h] at this
    cases this
theorem freeM_of {ls : List LK} {p : Nat} {q : LK} (hq : ls[p]? = some q) {k : Nat} {l : LK} (hl : ls[k]? = some l) (hw : waitM (ls.any (passP q)) q p l k = true) : freeM ls p = false := by
  cases hf : freeM ls p with
  | false => rfl
  | true =>
    have := (freeM_true hq).1 hf k l hl
    rw [hw] at this
    cases this
/-- a place set: what the row reads then -/
theorem setH_at {ls : List LK} {p : Nat} {q : LK} (hq : ls[p]? = some q) (r : Bool) (k : Nat) : (setH ls p r)[k]? = if k = p then some { q with h := r } else ls[k]? := by
  unfold setH
  rw [getD_of hq, List.getElem?_set]
  by_cases h : p = k
  · subst h
    rw [if_pos rfl, if_pos rfl, if_pos (List.getElem?_eq_some_iff.1 hq).1]
  · rw [if_neg h, if_neg fun e => h e.symm]
theorem setH_same {ls : List LK} {p : Nat} {q : LK} (hq : ls[p]? = some q) : setH ls p q.h = ls := by
  unfold setH
  rw [getD_of hq]
  apply List.ext_getElem?
  intro k
  rw [List.getElem?_set]
  by_cases h : p = k
  · subst h
    rw [if_pos rfl, if_pos (List.getElem?_eq_some_iff.1 hq).1, hq]
  · rw [if_neg h]
/-- whether one's transaction holds there already: another's lock says nothing -/
theorem pass_setH {ls : List LK} {p : Nat} {q : LK} (hq : ls[p]? = some q) (a : LK) (hne : q.t ≠ a.t) (r : Bool) : (setH ls p r).any (passP a) = ls.any (passP a) := by
  have hp : ∀ h, passP a { q with h := h } = false := fun h => by
    unfold passP
    have : (q.t == a.t) = false := by simpa using hne
    simp only [this, Bool.false_and]
  rw [Bool.eq_iff_iff, List.any_eq_true, List.any_eq_true]
  constructor
  · rintro ⟨x, hx, hpx⟩
    obtain ⟨k, hk⟩ := List.getElem?_of_mem hx
    rw [setH_at hq] at hk
    by_cases e : k = p
    · rw [if_pos e] at hk
      injection hk with hk
      rw [← hk, hp] at hpx
      cases hpx
    · rw [if_neg e] at hk
      exact ⟨x, List.mem_of_getElem? hk, hpx⟩
  · rintro ⟨x, hx, hpx⟩
    obtain ⟨k, hk⟩ := List.getElem?_of_mem hx
    refine ⟨x, List.mem_of_getElem? (i := k) ?_, hpx⟩
    rw [setH_at hq]
    by_cases e : k = p
    · subst e
      rw [hq] at hk
      injection hk with hk
      have := hp q.h
      rw [show ({ q with h := q.h } : LK) = q from rfl, hk, hpx] at this
      cases this
    · rw [if_neg e]; exact hk
/-- one more lock held: nobody else is free who wasn't -/
theorem stuck_hold {ls : List LK} {p : Nat} {q : LK} (hq : ls[p]? = some q) (hqh : q.h = false) (hI : Inv ls) {i : Nat} {a : LK} (ha : ls[i]? = some a) (hah : a.h = false) (hip : i ≠ p) (h : freeM ls i = false) : freeM (setH ls p true) i = false := by
  have ha' : (setH ls p true)[i]? = some a := by rw [setH_at hq, if_neg hip, ha]
  have hne : q.t ≠ a.t := fun e => hip (hI.one i p a q ha hq hah hqh e.symm)
  obtain ⟨k, l, hl, hw⟩ := freeM_false ha h
  by_cases e : k = p
  · subst e
    rw [hq] at hl
    injection hl with hl
    subst hl
    refine freeM_of ha' (k := k) (l := { q with h := true }) (by rw [setH_at hq, if_pos rfl]) ?_
    unfold waitM at hw ⊢
    simp only [Bool.and_eq_true] at hw ⊢
    exact ⟨⟨⟨by simp, hw.1.1.2⟩, hw.1.2⟩, hw.2⟩
  · refine freeM_of ha' (k := k) (l := l) (by rw [setH_at hq, if_neg e, hl]) ?_
    rw [pass_setH hq a hne]
    exact hw
theorem Inv.hold {ls : List LK} {p : Nat} {q : LK} (hI : Inv ls) (hq : ls[p]? = some q) (hm : ∀ l ∈ ls, 1 ≤ l.m ∧ l.m ≤ 4) (hf : freeM ls p = true) : Inv (setH ls p true) := by
  have hW := (freeM_true hq).1 hf
  have hno : ∀ (k : Nat) (b : LK), ls[k]? = some b → b.h = true → (q.t != b.t) = true → conM b.m q.m = true → meetM b.x q.x = true → False := fun k b hb h1 h2 h3 h4 => by
    have := hW k b hb
    unfold waitM at this
    have h5 : (b.t != q.t) = true := by
      have : q.t ≠ b.t := by simpa using h2
      simpa using fun e => this e.symm
    rw [h1, h3, h4, h5] at this
    simp at this
  refine ⟨fun l hl => ?_, fun i j a b ha hb h1 h2 h3 => ?_, fun i k a b ha hb h1 h2 h3 h4 h5 => ?_⟩
  · obtain ⟨k, hk⟩ := List.getElem?_of_mem hl
    rw [setH_at hq] at hk
    by_cases e : k = p
    · rw [if_pos e] at hk
      injection hk with hk
      subst hk
      have := hI.good q (List.mem_of_getElem? hq)
      exact ⟨this.t, this.may⟩
    · rw [if_neg e] at hk
      exact hI.good l (List.mem_of_getElem? hk)
  · rw [setH_at hq] at ha hb
    by_cases e : i = p
    · rw [if_pos e] at ha
      injection ha with ha
      subst ha
      cases h1
    · by_cases e' : j = p
      · rw [if_pos e'] at hb
        injection hb with hb
        subst hb
        cases h2
      · rw [if_neg e] at ha
        rw [if_neg e'] at hb
        exact hI.one i j a b ha hb h1 h2 h3
  · rw [setH_at hq] at ha hb
    by_cases e : i = p
    · rw [if_pos e] at ha
      injection ha with ha
      subst ha
      by_cases e' : k = p
      · rw [if_pos e'] at hb
        injection hb with hb
        subst hb
        simp at h3
      · rw [if_neg e'] at hb
        refine hno k b hb h2 h3 ?_ (by rw [meetM_symm]; exact h5)
        rw [conM_symm (hm b (List.mem_of_getElem? hb)) (hm q (List.mem_of_getElem? hq))]
        exact h4
    · rw [if_neg e] at ha
      by_cases e' : k = p
      · rw [if_pos e'] at hb
        injection hb with hb
        subst hb
        refine hno i a ha h1 ?_ h4 h5
        have : a.t ≠ q.t := by simpa using h3
        simpa using fun e => this e.symm
      · rw [if_neg e'] at hb
        exact hI.apart i k a b ha hb h1 h2 h3 h4 h5
end Go.Proofs.YtlblgfpafdfilaaDoor
namespace Go.Proofs.YtlblgfpafdfilaaDoor
open Go.RowKit Go.Sort

theorem Good.m {l : LK} (h : Good l) : 1 ≤ l.m ∧ l.m ≤ 4 := mayM_mode h.may
theorem Inv.ms {ls : List LK} (h : Inv ls) : ∀ l ∈ ls, 1 ≤ l.m ∧ l.m ≤ 4 := fun l hl => (h.good l hl).m
def R1 (a b : LK) : Prop := a.h = false → b.h = false → a.t ≠ b.t
def R2 (a b : LK) : Prop := a.h = true → b.h = true → (a.t != b.t) = true → conM a.m b.m = true → meetM a.x b.x = true → False
theorem Inv.p1 {ls : List LK} (h : Inv ls) : ls.Pairwise R1 := by
  rw [List.pairwise_iff_getElem]
  intro i j hi hj hij h1 h2 h3
  have := h.one i j _ _ (List.getElem?_eq_getElem hi) (List.getElem?_eq_getElem hj) h1 h2 h3
  omega
theorem Inv.p2 {ls : List LK} (h : Inv ls) : ls.Pairwise R2 := by
  rw [List.pairwise_iff_getElem]
  intro i j hi hj hij
  exact h.apart i j _ _ (List.getElem?_eq_getElem hi) (List.getElem?_eq_getElem hj)
theorem Inv.of {ls : List LK} (hg : ∀ l ∈ ls, Good l) (h1 : ls.Pairwise R1) (h2 : ls.Pairwise R2) : Inv ls := by
  rw [List.pairwise_iff_getElem] at h1 h2
  refine ⟨hg, fun i j a b ha hb ah bh e => ?_, fun i k a b ha hb ah bh e c m => ?_⟩
  · obtain ⟨hi, rfl⟩ := List.getElem?_eq_some_iff.1 ha
    obtain ⟨hj, rfl⟩ := List.getElem?_eq_some_iff.1 hb
    rcases Nat.lt_trichotomy i j with h | h | h
    · exact absurd e (h1 i j hi hj h ah bh)
    · exact h
    · exact absurd e.symm (h1 j i hj hi h bh ah)
  · have hga := hg a (List.mem_of_getElem? ha)
    have hgb := hg b (List.mem_of_getElem? hb)
    obtain ⟨hi, rfl⟩ := List.getElem?_eq_some_iff.1 ha
    obtain ⟨hj, rfl⟩ := List.getElem?_eq_some_iff.1 hb
    rcases Nat.lt_trichotomy i k with h | h | h
    · exact h2 i k hi hj h ah bh e c m
    · subst h
      simp at e
    · refine h2 k i hj hi h bh ah ?_ (by rw [conM_symm hgb.m hga.m]; exact c) (by rw [meetM_symm]; exact m)
      have : ls[i].t ≠ ls[k].t := by simpa using e
      simpa using fun e => this e.symm
theorem Inv.kept {ls : List LK} (h : Inv ls) (t : Nat) : Inv (keptM t ls) := Inv.of (fun l hl => h.good l (List.mem_filter.1 hl).1) (h.p1.filter _) (h.p2.filter _)
theorem inv_pass {ls : List LK} (h : Inv ls) : ∀ n, n ≤ ls.length → Inv (passM ls n).1 ∧ Stuck (passM ls n).1 n
  | 0, _ => ⟨h, fun p q hp => absurd hp (Nat.not_lt_zero p)⟩
  | n + 1, hn => by
    obtain ⟨hI, hS⟩ := inv_pass h n (by omega)
    have hl := (passM_len ls n).1
    have hq : (passM ls n).1[n]? = some ((passM ls n).1[n]'(by omega)) := List.getElem?_eq_getElem _
    generalize (passM ls n).1[n]'(by omega) = q at hq
    rw [passM_succ]
    unfold relS
    rw [getD_of hq]
    cases hh : q.h with
    | true =>
      rw [if_pos rfl]
      refine ⟨hI, fun p a hp ha hah => ?_⟩
      rcases Nat.lt_or_ge p n with h' | h'
      · exact hS p a h' ha hah
      · obtain rfl : p = n := by omega
        rw [hq] at ha
        injection ha with ha
        subst ha
        rw [hh] at hah
        cases hah
    | false =>
      rw [if_neg Bool.false_ne_true]
      cases hf : freeM (passM ls n).1 n with
      | true =>
        refine ⟨hI.hold hq hI.ms hf, fun p a hp ha hah => ?_⟩
        rw [setH_at hq] at ha
        by_cases e : p = n
        · rw [if_pos e] at ha
          injection ha with ha
          subst ha
          cases hah
        · rw [if_neg e] at ha
          exact stuck_hold hq hh hI ha hah e (hS p a (by omega) ha hah)
      | false =>
        have hs : setH (passM ls n).1 n false = (passM ls n).1 := by
          have := setH_same hq
          rwa [hh] at this
        simp only
        rw [hs]
        refine ⟨hI, fun p a hp ha hah => ?_⟩
        rcases Nat.lt_or_ge p n with h' | h'
        · exact hS p a h' ha hah
        · obtain rfl : p = n := by omega
          exact hf
/-- a table that has been played -/
def Fine (ls : List LK) : Prop := Inv ls ∧ Stuck ls ls.length
theorem fine_nil : Fine [] := ⟨⟨(fun l hl => by cases hl), (fun i j a b ha => by simp at ha), (fun i k a b ha => by simp at ha)⟩, fun p q hp => absurd hp (Nat.not_lt_zero p)⟩
theorem fine_release {ls : List LK} (h : Fine ls) (t : Nat) : Fine (releaseM t ls).1 := by
  have := inv_pass (h.1.kept t) _ (Nat.le_refl _)
  unfold releaseM
  refine ⟨this.1, ?_⟩
  rw [(passM_len _ _).1]
  exact this.2
theorem app_at {ls : List LK} {y : LK} {k : Nat} {l : LK} (h : (ls ++ [y])[k]? = some l) : (k < ls.length ∧ ls[k]? = some l) ∨ (k = ls.length ∧ l = y) := by
  rcases Nat.lt_or_ge k ls.length with hk | hk
  · rw [List.getElem?_append_left hk] at h
    exact Or.inl ⟨hk, h⟩
  · rw [List.getElem?_append_right hk] at h
    right
    have h0 : k - ls.length = 0 := by
      rcases Nat.eq_zero_or_pos (k - ls.length) with h0 | h0
      · exact h0
      · rw [List.getElem?_eq_none (by simp; omega)] at h; cases h
    rw [h0] at h
    simp at h
    exact ⟨by omega, h.symm⟩
theorem at_app {ls : List LK} {y : LK} {k : Nat} {l : LK} (h : ls[k]? = some l) : (ls ++ [y])[k]? = some l := by rw [List.getElem?_append_left (List.getElem?_eq_some_iff.1 h).1]; exact h
theorem at_last (ls : List LK) (y : LK) : (ls ++ [y])[ls.length]? = some y := by simp
/-- one more that waits -/
theorem fine_app {ls : List LK} (h : Fine ls) {y : LK} (hy : Good y) (hh : y.h = false) (hw : ls.any (waitsP y.t) = false) : Inv (ls ++ [y]) ∧ Stuck (ls ++ [y]) ls.length := by
  have hno : ∀ a ∈ ls, a.h = false → a.t ≠ y.t := fun a ha h1 e => by
    have : ls.any (waitsP y.t) = true := List.any_eq_true.2 ⟨a, ha, by unfold waitsP; rw [h1, e]; simp⟩
    rw [hw] at this
    cases this
  refine ⟨⟨fun l hl => ?_, fun i j a b ha hb h1 h2 h3 => ?_, fun i k a b ha hb h1 h2 h3 h4 h5 => ?_⟩, fun p q hp hq hqh => ?_⟩
  · rcases List.mem_append.1 hl with hl | hl
    · exact h.1.good l hl
    · rw [List.mem_singleton.1 hl]; exact hy
  · rcases app_at ha with ⟨_, ha'⟩ | ⟨ei, ea⟩ <;> rcases app_at hb with ⟨_, hb'⟩ | ⟨ej, eb⟩
    · exact h.1.one i j a b ha' hb' h1 h2 h3
    · rw [eb] at h3; exact absurd h3 (hno a (List.mem_of_getElem? ha') h1)
    · rw [ea] at h3; exact absurd h3.symm (hno b (List.mem_of_getElem? hb') h2)
    · omega
  · rcases app_at ha with ⟨_, ha'⟩ | ⟨ei, ea⟩
    · rcases app_at hb with ⟨_, hb'⟩ | ⟨ej, eb⟩
      · exact h.1.apart i k a b ha' hb' h1 h2 h3 h4 h5
      · rw [eb, hh] at h2; cases h2
    · rw [ea, hh] at h1; cases h1
  · rcases app_at hq with ⟨_, hq'⟩ | ⟨rfl, _⟩
    · obtain ⟨k, l, hl, hw'⟩ := freeM_false hq' (h.2 p q hp hq' hqh)
      refine freeM_of hq (k := k) (l := l) (at_app hl) ?_
      rw [List.any_append]
      have : passP q y = false := by unfold passP; rw [hh]; simp
      simp only [List.any_cons, List.any_nil, this, Bool.or_false]
      exact hw'
    · omega
/-- and, where it is free, holds -/
theorem fine_hold {L : List LK} {y : LK} {n : Nat} (hn : L.length = n + 1) (hy : L[n]? = some y) (hh : y.h = false) (hI : Inv L) (hS : Stuck L n) : Fine (setH L n (freeM L n)) := by
  cases hf : freeM L n with
  | true =>
    refine ⟨hI.hold hy hI.ms hf, fun p a hp ha hah => ?_⟩
    rw [setH_len, hn] at hp
    rw [setH_at hy] at ha
    by_cases e : p = n
    · rw [if_pos e] at ha
      injection ha with ha
      subst ha
      cases hah
    · rw [if_neg e] at ha
      exact stuck_hold hy hh hI ha hah e (hS p a (by omega) ha hah)
  | false =>
    have hs : setH L n false = L := by
      have := setH_same hy
      rwa [hh] at this
    rw [hs]
    refine ⟨hI, fun p a hp ha hah => ?_⟩
    rcases Nat.lt_or_ge p n with h' | h'
    · exact hS p a h' ha hah
    · obtain rfl : p = n := by omega
      exact hf
theorem liesM_self (x : Th) : liesM x x = true := by
  unfold liesM alikeM
  rw [slt_self, slt_self]
  cases emp x.b <;> simp
theorem hasP_self {l : LK} (hg : Good l) (hh : l.h = true) : hasP l.t l.x l.m l = true := by
  unfold hasP
  rw [hh, covM_self hg.m, liesM_self]
  simp
/-- what is held is told by Has -/
theorem has_held {ls : List LK} (h : Inv ls) {k : Nat} {l : LK} (hl : ls[k]? = some l) (hh : l.h = true) : hasM l.t l.x l.m ls = true := by
  have hm := List.mem_of_getElem? hl
  have hg := h.good l hm
  unfold hasM
  rw [hg.may, Bool.true_and, List.any_eq_true]
  exact ⟨l, hm, hasP_self hg hh⟩
/-- Ask: the table stays fine, and what it says is what Has says -/
theorem fine_ask {ls : List LK} (h : Fine ls) (t : Nat) (x : Th) (m : Int) : Fine (askM t x m ls).2 ∧ ((askM t x m ls).1.2 = 0 → (askM t x m ls).1.1 = hasM t x m (askM t x m ls).2) := by
  unfold askM
  split
  · exact ⟨h, fun e => by simp at e⟩
  · rename_i h1
    split
    · exact ⟨h, fun e => by simp at e⟩
    · rename_i h2
      split
      · rename_i h3
        exact ⟨h, fun _ => h3.symm⟩
      · rename_i h3
        split
        · exact ⟨h, fun e => by simp at e⟩
        · rw [Bool.not_eq_true, Bool.or_eq_false_iff, Bool.not_eq_false'] at h1
          have ht : 1 ≤ t := by
            have h0 : t ≠ 0 := by simpa using h1.1
            omega
          have hg : Good ⟨t, x, m, false⟩ := ⟨ht, h1.2⟩
          have hA := fine_app h hg rfl (by simpa using h2)
          have hF := fine_hold (by simp) (at_last ls ⟨t, x, m, false⟩) rfl hA.1 hA.2
          refine ⟨hF, fun _ => ?_⟩
          have hy := at_last ls ⟨t, x, m, false⟩
          simp only
          cases hf : freeM (ls ++ [⟨t, x, m, false⟩]) ls.length with
          | true =>
            rw [hf] at hF
            have := has_held hF.1 (k := ls.length) (l := ⟨t, x, m, true⟩) (by rw [setH_at hy, if_pos rfl]) rfl
            exact this.symm
          | false =>
            have hs := setH_same hy
            simp only at hs
            rw [hs]
            have h3' : hasM t x m ls = false := by simpa using h3
            unfold hasM at h3' ⊢
            rw [h1.2, Bool.true_and] at h3' ⊢
            rw [List.any_append, h3']
            unfold hasP
            simp
end Go.Proofs.YtlblgfpafdfilaaDoor
namespace Go.Proofs.YtlblgfpafdfilaaDoor
open Go.RowKit Go.Sort

theorem rconM_eq {a b : Int} (ha : 1 ≤ a ∧ a ≤ 4) (hb : 1 ≤ b ∧ b ≤ 4) : rconM a b = conM a b := by
  have h1 : a = 1 ∨ a = 2 ∨ a = 3 ∨ a = 4 := by omega
  have h2 : b = 1 ∨ b = 2 ∨ b = 3 ∨ b = 4 := by omega
  rcases h1 with rfl | rfl | rfl | rfl <;> rcases h2 with rfl | rfl | rfl | rfl <;> rfl
theorem may_plain {x : Th} {m : Int} (h : mayM x m = true) (hr : x.r = false) : emp x.a = true ∧ emp x.b = true := by
  unfold mayM at h
  rw [if_neg (by rw [hr]; exact Bool.false_ne_true)] at h
  simp only [Bool.and_eq_true] at h
  exact ⟨h.1.1.1, h.1.1.2⟩
theorem rmeetM_eq {x y : Th} {m n : Int} (hx : mayM x m = true) (hy : mayM y n = true) : rmeetM x y = meetM x y := by
  have e1 : aheadM x y = belM x.a y.b := rfl
  have e2 : aheadM y x = belM y.a x.b := rfl
  unfold rmeetM meetM
  rw [e1, e2, Bool.and_assoc]
  cases ha : alikeM x y with
  | false => rfl
  | true =>
    rw [Bool.true_and, Bool.true_and]
    cases hr : x.r with
    | true => rfl
    | false =>
      have hyr : y.r = false := by
        unfold alikeM at ha
        rw [hr, Bool.and_eq_true, beq_iff_eq] at ha
        exact ha.1.symm
      have h1 : belM x.a y.b = true := by unfold belM; rw [(may_plain hy hyr).2]; rfl
      have h2 : belM y.a x.b = true := by unfold belM; rw [(may_plain hx hr).2]; rfl
      rw [h1, h2]
      rfl
/-- what apart looks at -/
theorem fine_apart {ls : List LK} (h : Inv ls) {i k : Nat} {a b : LK} (ha : ls[i]? = some a) (hb : ls[k]? = some b) : (a.h && b.h && (a.t != b.t) && rmeetM a.x b.x && rconM a.m b.m) = false := by
  have hga := h.good a (List.mem_of_getElem? ha)
  have hgb := h.good b (List.mem_of_getElem? hb)
  rw [rmeetM_eq hga.may hgb.may, rconM_eq hga.m hgb.m]
  cases hc : (a.h && b.h && (a.t != b.t) && meetM a.x b.x && conM a.m b.m) with
  | false => rfl
  | true =>
    simp only [Bool.and_eq_true] at hc
    exact (h.apart i k a b ha hb hc.1.1.1.1 hc.1.1.1.2 hc.1.1.2 hc.2 hc.1.2).elim
theorem inM_mono (ls : List LK) (q : LK) (p : Nat) (z : Nat × Nat) : ∀ (pl : List Nat) (st : List (Nat × Nat) × Nat), z ∈ st.1 → z ∈ (pl.foldl (inM ls q p) st).1
  | [], _, h => h
  | o :: r, st, h => by
    rw [List.foldl_cons]
    refine inM_mono ls q p z r _ ?_
    unfold inM
    split
    · exact List.mem_append_left _ h
    · exact h
theorem inM_some (ls : List LK) (q : LK) (p o : Nat) (ht : (ls.getD o okz).t ≠ 0) (hw : waitM (ls.any (passP q)) q p (ls.getD o okz) o = true) : ∀ (pl : List Nat) (acc : List (Nat × Nat)), o ∈ pl → ∃ u, (q.t, u) ∈ (pl.foldl (inM ls q p) (acc, 0)).1 ∧ u ≠ q.t
  | [], _, h => by cases h
  | o' :: r, acc, h => by
    rw [List.foldl_cons]
    by_cases hc : ((ls.getD o' okz).t != (acc, 0).2 && waitM (ls.any (passP q)) q p (ls.getD o' okz) o') = true
    · have e : inM ls q p (acc, 0) o' = (acc ++ [(q.t, (ls.getD o' okz).t)], (ls.getD o' okz).t) := by unfold inM; rw [if_pos hc]
      rw [e]
      refine ⟨(ls.getD o' okz).t, inM_mono ls q p _ r _ (by simp), ?_⟩
      rw [Bool.and_eq_true] at hc
      have := hc.2
      unfold waitM at this
      simp only [Bool.and_eq_true] at this
      simpa using this.1.1.2
    · have e : inM ls q p (acc, 0) o' = (acc, 0) := by unfold inM; rw [if_neg hc]
      rw [e]
      refine inM_some ls q p o ht hw r acc ?_
      rcases List.mem_cons.1 h with rfl | h
      · exfalso
        apply hc
        rw [hw, Bool.and_true]
        simpa using ht
      · exact h
theorem outM_mono (ls : List LK) (pl : List Nat) (z : Nat × Nat) : ∀ (l : List Nat) (acc : List (Nat × Nat)), z ∈ acc → z ∈ l.foldl (outM ls pl) acc
  | [], _, h => h
  | p :: r, acc, h => by
    rw [List.foldl_cons]
    refine outM_mono ls pl z r _ ?_
    unfold outM
    split
    · exact h
    · exact inM_mono ls _ p z pl _ h
theorem outM_some (ls : List LK) (pl : List Nat) (p : Nat) (hh : (ls.getD p okz).h = false) (h : ∀ acc, ∃ u, ((ls.getD p okz).t, u) ∈ (inL ls (ls.getD p okz) p pl acc).1 ∧ u ≠ (ls.getD p okz).t) : ∀ (l : List Nat) (acc : List (Nat × Nat)), p ∈ l → ∃ u, ((ls.getD p okz).t, u) ∈ l.foldl (outM ls pl) acc ∧ u ≠ (ls.getD p okz).t
  | [], _, hp => by cases hp
  | p' :: r, acc, hp => by
    rw [List.foldl_cons]
    rcases List.mem_cons.1 hp with rfl | hp
    · obtain ⟨u, hu, hne⟩ := h acc
      refine ⟨u, outM_mono ls pl _ r _ ?_, hne⟩
      unfold outM
      rw [if_neg (by rw [hh]; exact Bool.false_ne_true)]
      exact hu
    · exact outM_some ls pl p hh h r _ hp
/-- who waits is told by Waits -/
theorem fine_waits {ls : List LK} (h : Fine ls) {pl : List Nat} (hr : Rises ls pl) {k : Nat} {l : LK} (hl : ls[k]? = some l) (hh : l.h = false) : ∃ (j u : Nat), (waitsM ls pl)[j]? = some (l.t, u) ∧ u ≠ l.t := by
  have hk := (List.getElem?_eq_some_iff.1 hl).1
  have hmem : ∀ o, o < ls.length → o ∈ pl := fun o ho => hr.1.mem_iff.2 (List.mem_range.2 ho)
  obtain ⟨o, b, hb, hw⟩ := freeM_false hl (h.2 k l hk hl hh)
  have hb' := getD_of hb
  have hl' := getD_of hl
  have hg := h.1.good b (List.mem_of_getElem? hb)
  have hin : ∀ acc, ∃ u, ((ls.getD k okz).t, u) ∈ (inL ls (ls.getD k okz) k pl acc).1 ∧ u ≠ (ls.getD k okz).t := fun acc => by
    rw [hl']
    exact inM_some ls l k o (by rw [hb']; have := hg.t; omega) (by rw [hb']; exact hw) pl acc (hmem o (List.getElem?_eq_some_iff.1 hb).1)
  obtain ⟨u, hu, hne⟩ := outM_some ls pl k (by rw [hl']; exact hh) hin pl [] (hmem k hk)
  rw [hl'] at hu hne
  obtain ⟨j, hj⟩ := List.getElem?_of_mem hu
  exact ⟨j, u, hj, hne⟩
end Go.Proofs.YtlblgfpafdfilaaDoor
