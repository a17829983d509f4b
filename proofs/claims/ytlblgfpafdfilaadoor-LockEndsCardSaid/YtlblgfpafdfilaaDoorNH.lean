/-
  STAGE 12: LockEnds' mathematics: somebody doesn't wait; giving back makes no ring; a ring is told by two pairs.
-/
import Derived.Test.YtlblgfpafdfilaaDoorNG
namespace Go.Proofs.YtlblgfpafdfilaaDoor
open Go.RowKit Go.Sort

theorem pigeon : ∀ (n : Nat) (x : Nat → Nat), (∀ i, i ≤ n → x i < n) → ∃ i j, i < j ∧ j ≤ n ∧ x i = x j
  | 0, x, h => absurd (h 0 (Nat.le_refl 0)) (Nat.not_lt_zero _)
  | n + 1, x, h => by
    by_cases hx : ∃ i, i ≤ n ∧ x i = x (n + 1)
    · obtain ⟨i, hi, e⟩ := hx
      exact ⟨i, n + 1, by omega, Nat.le_refl _, e⟩
    · have hne : ∀ i, i ≤ n → x i ≠ x (n + 1) := fun i hi e => hx ⟨i, hi, e⟩
      obtain ⟨i, j, hij, hj, e⟩ := pigeon n (fun i => if x (n + 1) < x i then x i - 1 else x i) fun i hi => by
        have h1 := h i (by omega)
        have h2 := h (n + 1) (Nat.le_refl _)
        have h3 := hne i hi
        show (if x (n + 1) < x i then x i - 1 else x i) < n
        split <;> omega
      refine ⟨i, j, hij, by omega, ?_⟩
      have h1 := hne i (by omega)
      have h2 := hne j hj
      split at e <;> split at e <;> omega
theorem Wre.trans {ls : List LK} {a b c : Nat} (h : Wre ls a b) (k : Wre ls b c) : Wre ls a c := by
  induction h with
  | one h => exact .step h k
  | step h _ ih => exact .step h (ih k)
/-- where nobody is on a ring, somebody doesn't wait -/
theorem someone {ls : List LK} (hF : Fine ls) (hne : ls ≠ []) (hno : ∀ a, ¬ Wre ls a a) : ∃ l ∈ ls, ls.any (waitsP l.t) = false := by
  by_cases hx : ∃ l ∈ ls, ls.any (waitsP l.t) = false
  · exact hx
  · exfalso
    have hall : ∀ l ∈ ls, ls.any (waitsP l.t) = true := fun l hl => by
      cases h : ls.any (waitsP l.t) with
      | true => rfl
      | false => exact absurd ⟨l, hl, h⟩ hx
    have hstep : ∀ p, p < ls.length → ∃ r, r < ls.length ∧ Wt ls (tx ls p) (tx ls r) := fun p hp => by
      have hq : ls[p]? = some ls[p] := List.getElem?_eq_getElem hp
      obtain ⟨y, hy, hw⟩ := List.any_eq_true.1 (hall _ (List.mem_of_getElem? hq))
      unfold waitsP at hw
      simp only [Bool.and_eq_true, beq_iff_eq, Bool.not_eq_true'] at hw
      obtain ⟨i, hi⟩ := List.getElem?_of_mem hy
      obtain ⟨k, l, hl, hw2⟩ := freeM_false hi (hF.2 i y (List.getElem?_eq_some_iff.1 hi).1 hi hw.2)
      refine ⟨k, (List.getElem?_eq_some_iff.1 hl).1, i, k, y, l, hi, hw.2, hl, hw2, ?_, ?_⟩
      · unfold tx; rw [getD_of hq]; exact hw.1
      · unfold tx; rw [getD_of hl]
    obtain ⟨g, hg⟩ : ∃ g : Nat → Nat, ∀ p, p < ls.length → g p < ls.length ∧ Wt ls (tx ls p) (tx ls (g p)) := by
      refine ⟨fun p => if h : p < ls.length then Classical.choose (hstep p h) else 0, fun p hp => ?_⟩
      simp only [dif_pos hp]
      exact Classical.choose_spec (hstep p hp)
    have h0 : 0 < ls.length := List.length_pos_iff.2 hne
    have hit : ∀ i, (Nat.repeat g i 0) < ls.length := fun i => by
      induction i with
      | zero => exact h0
      | succ i ih => exact (hg _ ih).1
    have hre : ∀ i d, Wre ls (tx ls (Nat.repeat g i 0)) (tx ls (Nat.repeat g (i + (d + 1)) 0)) := fun i d => by
      induction d with
      | zero => exact .one (hg _ (hit i)).2
      | succ d ih => exact ih.trans (.one (hg _ (hit _)).2)
    obtain ⟨i, j, hij, _, e⟩ := pigeon ls.length (fun i => Nat.repeat g i 0) fun i _ => hit i
    have := hre i (j - i - 1)
    rw [show i + (j - i - 1 + 1) = j by omega] at this
    rw [← e] at this
    exact hno _ this
/-- one place of the pass: what is on a ring behind it was on one ahead of it -/
theorem wt_hold {ls : List LK} (hI : Inv ls) {n : Nat} {q : LK} (hq : ls[n]? = some q) (hh : q.h = false) {a b : Nat} (h : Wt (setH ls n true) a b) (hb : ∃ (r : Nat) (y : LK), (setH ls n true)[r]? = some y ∧ y.h = false ∧ y.t = b) : Wt ls a b := by
  obtain ⟨p, k, q', l, hq', hqh', hl, hw, ha, hlb⟩ := h
  rw [setH_at hq] at hq' hl
  have hpn : p ≠ n := fun e => by
    rw [if_pos e] at hq'
    injection hq' with hq'
    rw [← hq'] at hqh'
    cases hqh'
  rw [if_neg hpn] at hq'
  have hne : q.t ≠ q'.t := fun e => hpn (hI.one p n q' q hq' hq hqh' hh e.symm)
  rw [pass_setH hq q' hne] at hw
  by_cases e : k = n
  · exfalso
    rw [if_pos e] at hl
    injection hl with hl
    obtain ⟨r, y, hy, hyh, hyt⟩ := hb
    rw [setH_at hq] at hy
    by_cases e2 : r = n
    · rw [if_pos e2] at hy
      injection hy with hy
      rw [← hy] at hyh
      cases hyh
    · rw [if_neg e2] at hy
      exact e2 (hI.one r n y q hy hq hyh hh (by rw [hyt, ← hlb, ← hl]))
  · rw [if_neg e] at hl
    exact ⟨p, k, q', l, hq', hqh', hl, hw, ha, hlb⟩
def Waits (ls : List LK) (b : Nat) : Prop := ∃ (r : Nat) (y : LK), ls[r]? = some y ∧ y.h = false ∧ y.t = b
theorem Wt.waits {ls : List LK} {a b : Nat} (h : Wt ls a b) : Waits ls a := by
  obtain ⟨p, _, q, _, hq, hh, _, _, ha, _⟩ := h
  exact ⟨p, q, hq, hh, ha⟩
theorem Wre.waits {ls : List LK} {a b : Nat} (h : Wre ls a b) : Waits ls a := by
  cases h with
  | one h => exact h.waits
  | step h _ => exact h.waits
theorem wre_lift {ls ls' : List LK} (h : ∀ a b, Wt ls' a b → Waits ls' b → Wt ls a b) {a b : Nat} (hr : Wre ls' a b) (hb : Waits ls' b) : Wre ls a b := by
  induction hr with
  | one hw => exact .one (h _ _ hw hb)
  | step hw hr ih => exact .step (h _ _ hw hr.waits) (ih hb)
theorem wt_pass {ls : List LK} (hI : Inv ls) : ∀ n, n ≤ ls.length → ∀ a, Wre (passM ls n).1 a a → Wre ls a a
  | 0, _, a, h => h
  | n + 1, hn, a, h => by
    refine wt_pass hI n (by omega) a ?_
    have hl := (passM_len ls n).1
    have hq : (passM ls n).1[n]? = some ((passM ls n).1[n]'(by omega)) := List.getElem?_eq_getElem _
    generalize (passM ls n).1[n]'(by omega) = q at hq
    rw [passM_succ] at h
    unfold relS at h
    rw [getD_of hq] at h
    split at h
    · exact h
    · rename_i hh
      have hh' : q.h = false := by simpa using hh
      rcases setH_cases hq hh' (freeM (passM ls n).1 n) with ⟨_, e⟩ | ⟨_, e⟩
      · simp only at h
        rw [e] at h
        exact wre_lift (fun a b hw hb => wt_hold (inv_pass hI n (by omega)).1 hq hh' hw hb) h h.waits
      · simp only at h
        rw [e] at h
        exact h
theorem filter_map_ {P : LK → Bool} : ∀ ls : List LK, ∃ φ : Nat → Nat, (∀ i j, i < j → φ i < φ j) ∧ ∀ i x, (ls.filter P)[i]? = some x → ls[φ i]? = some x
  | [] => ⟨id, fun _ _ h => h, fun i x h => by simp at h⟩
  | y :: r => by
    obtain ⟨φ, h1, h2⟩ := filter_map_ (P := P) r
    cases hy : P y with
    | true =>
      refine ⟨fun i => if i = 0 then 0 else φ (i - 1) + 1, fun i j hij => ?_, fun i x h => ?_⟩
      · show (if i = 0 then 0 else φ (i - 1) + 1) < (if j = 0 then 0 else φ (j - 1) + 1)
        by_cases e : i = 0
        · rw [if_pos e, if_neg (by omega)]
          omega
        · rw [if_neg e, if_neg (by omega)]
          have := h1 (i - 1) (j - 1) (by omega)
          omega
      · rw [List.filter_cons_of_pos hy] at h
        cases i with
        | zero => simpa using h
        | succ i =>
          simp only [List.getElem?_cons_succ] at h
          simp only [Nat.add_one_ne_zero, if_false, Nat.add_sub_cancel, List.getElem?_cons_succ]
          exact h2 i x h
    | false =>
      refine ⟨fun i => φ i + 1, fun i j hij => Nat.succ_lt_succ (h1 i j hij), fun i x h => ?_⟩
      rw [List.filter_cons_of_neg (by rw [hy]; exact Bool.false_ne_true)] at h
      simp only [List.getElem?_cons_succ]
      exact h2 i x h
theorem wt_kept {ls : List LK} {t a b : Nat} (h : Wt (keptM t ls) a b) : Wt ls a b := by
  obtain ⟨p, k, q, l, hq, hh, hl, hw, ha, hb⟩ := h
  obtain ⟨φ, h1, h2⟩ := filter_map_ (P := fun l => !(l.t == t)) ls
  have hqm := (List.mem_filter.1 (List.mem_of_getElem? hq)).2
  have hpass : (keptM t ls).any (passP q) = ls.any (passP q) := by
    rw [Bool.eq_iff_iff, List.any_eq_true, List.any_eq_true]
    constructor
    · rintro ⟨x, hx, hp⟩
      exact ⟨x, (List.mem_filter.1 hx).1, hp⟩
    · rintro ⟨x, hx, hp⟩
      refine ⟨x, List.mem_filter.2 ⟨hx, ?_⟩, hp⟩
      unfold passP at hp
      simp only [Bool.and_eq_true, beq_iff_eq] at hp
      rw [hp.1.1]
      exact hqm
  rw [hpass] at hw
  refine ⟨φ p, φ k, q, l, h2 p q hq, hh, h2 k l hl, ?_, ha, hb⟩
  unfold waitM at hw ⊢
  simp only [Bool.and_eq_true, Bool.or_eq_true, decide_eq_true_eq] at hw ⊢
  exact ⟨⟨⟨hw.1.1.1.imp id fun h => ⟨h1 k p h.1, h.2⟩, hw.1.1.2⟩, hw.1.2⟩, hw.2⟩
theorem wre_kept {ls : List LK} {t a b : Nat} (h : Wre (keptM t ls) a b) : Wre ls a b := by
  induction h with
  | one h => exact .one (wt_kept h)
  | step h _ ih => exact .step (wt_kept h) ih
/-- giving back makes no ring -/
theorem wre_release {ls : List LK} (hI : Inv ls) {t a : Nat} (h : Wre (releaseM t ls).1 a a) : Wre ls a a := wre_kept (wt_pass (hI.kept t) _ (Nat.le_refl _) a h)
/-- and takes something away -/
theorem release_less {ls : List LK} {t : Nat} {l : LK} (hl : l ∈ ls) (ht : l.t = t) : (releaseM t ls).1.length < ls.length := by
  unfold releaseM
  rw [(passM_len _ _).1]
  unfold keptM
  rcases Nat.lt_or_ge (ls.filter fun l => !(l.t == t)).length ls.length with h | h
  · exact h
  · exfalso
    have e := List.length_filter_eq_length_iff.1 (Nat.le_antisymm (List.length_filter_le _ _) h) l hl
    rw [ht] at e
    simp at e
end Go.Proofs.YtlblgfpafdfilaaDoor
