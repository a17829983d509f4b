/-
STAGE 12: who waits for whom, by transactions (mathematics). STAGE 12: LockEnds' mathematics: somebody doesn't wait; giving back makes no ring; a ring is told by two pairs.
-/
import Derived.Test.YtlblgfpafdfilaaDoorNB
import Derived.Test.YtlblgfpafdfilaaDoorNA
import Derived.Test.YtlblgfpafdfilaaDoorMH
namespace Go.Proofs.YtlblgfpafdfilaaDoor
open Go.RowKit Go.Sort

/-- what waits is its transaction's last -/
def R3 (a b : LK) : Prop := a.h = false → b.t ≠ a.t
def Last (ls : List LK) : Prop := ∀ (i j : Nat) (a b : LK), ls[i]? = some a → ls[j]? = some b → i < j → a.h = false → b.t ≠ a.t
theorem Last.p3 {ls : List LK} (h : Last ls) : ls.Pairwise R3 := by
  rw [List.pairwise_iff_getElem]
  intro i j hi hj hij
  exact h i j _ _ (List.getElem?_eq_getElem hi) (List.getElem?_eq_getElem hj) hij
theorem Last.of {ls : List LK} (h : ls.Pairwise R3) : Last ls := by
  rw [List.pairwise_iff_getElem] at h
  intro i j a b ha hb hij
  obtain ⟨hi, rfl⟩ := List.getElem?_eq_some_iff.1 ha
  obtain ⟨hj, rfl⟩ := List.getElem?_eq_some_iff.1 hb
  exact h i j hi hj hij
theorem Last.hold {ls : List LK} {p : Nat} {q : LK} (h : Last ls) (hq : ls[p]? = some q) : Last (setH ls p true) := fun i j a b ha hb hij hh => by
  rw [setH_at hq] at ha hb
  have ha' : ls[i]? = some a := by
    by_cases e : i = p
    · rw [if_pos e] at ha; injection ha with ha; rw [← ha] at hh; cases hh
    · rw [if_neg e] at ha; exact ha
  by_cases e : j = p
  · rw [if_pos e] at hb
    injection hb with hb
    rw [← hb]
    exact h i j a q ha' (by rw [e]; exact hq) hij hh
  · rw [if_neg e] at hb
    exact h i j a b ha' hb hij hh
theorem setH_cases {ls : List LK} {p : Nat} {q : LK} (hq : ls[p]? = some q) (hh : q.h = false) (r : Bool) : (r = true ∧ setH ls p r = setH ls p true) ∨ (r = false ∧ setH ls p r = ls) := by
  cases r with
  | true => exact Or.inl ⟨rfl, rfl⟩
  | false => exact Or.inr ⟨rfl, by have := setH_same hq; rwa [hh] at this⟩
theorem last_pass {ls : List LK} (h : Last ls) : ∀ n, n ≤ ls.length → Last (passM ls n).1
  | 0, _ => h
  | n + 1, hn => by
    have ih := last_pass h n (by omega)
    have hl := (passM_len ls n).1
    have hq : (passM ls n).1[n]? = some ((passM ls n).1[n]'(by omega)) := List.getElem?_eq_getElem _
    generalize (passM ls n).1[n]'(by omega) = q at hq
    rw [passM_succ]
    unfold relS
    rw [getD_of hq]
    split
    · exact ih
    · rename_i hh
      rcases setH_cases hq (by simpa using hh) (freeM (passM ls n).1 n) with ⟨_, e⟩ | ⟨_, e⟩
      · simp only; rw [e]; exact ih.hold hq
      · simp only; rw [e]; exact ih
theorem last_release {ls : List LK} (h : Last ls) (t : Nat) : Last (releaseM t ls).1 := last_pass (Last.of (h.p3.filter _)) _ (Nat.le_refl _)
theorem last_app {ls : List LK} (h : Last ls) {y : LK} (hw : ls.any (waitsP y.t) = false) : Last (ls ++ [y]) := by
  refine Last.of ?_
  rw [List.pairwise_append]
  refine ⟨h.p3, by simp, fun a ha b hb hh e => ?_⟩
  rw [List.mem_singleton.1 hb] at e
  have : ls.any (waitsP y.t) = true := List.any_eq_true.2 ⟨a, ha, by unfold waitsP; rw [hh, e]; simp⟩
  rw [hw] at this
  cases this
theorem last_ask {ls : List LK} (h : Last ls) (t : Nat) (x : Th) (m : Int) : Last (askM t x m ls).2 := by
  unfold askM
  split
  · exact h
  · split
    · exact h
    · rename_i h2
      split
      · exact h
      · split
        · exact h
        · have hA := last_app h (y := ⟨t, x, m, false⟩) (by simpa using h2)
          rcases setH_cases (at_last ls ⟨t, x, m, false⟩) rfl (freeM (ls ++ [⟨t, x, m, false⟩]) ls.length) with ⟨_, e⟩ | ⟨_, e⟩
          · simp only; rw [e]; exact hA.hold (at_last ls _)
          · simp only; rw [e]; exact hA
theorem last_play (l : List AV) : Last (playM l) := by
  have key : ∀ (l : List AV) (ls : List LK), Last ls → Last (l.foldl actM ls) := by
    intro l
    induction l with
    | nil => intro ls h; exact h
    | cons v r ih =>
      intro ls h
      refine ih _ ?_
      unfold actM
      split
      · exact last_ask h _ _ _
      · split
        · exact last_release h _
        · exact h
  exact key l [] (fun i j a b ha => by simp at ha)
/-- a waits for b -/
def Wt (ls : List LK) (a b : Nat) : Prop := ∃ (p k : Nat) (q l : LK), ls[p]? = some q ∧ q.h = false ∧ ls[k]? = some l ∧ waitM (ls.any (passP q)) q p l k = true ∧ q.t = a ∧ l.t = b
inductive Wre (ls : List LK) : Nat → Nat → Prop
  | one {a b : Nat} : Wt ls a b → Wre ls a b
  | step {a b c : Nat} : Wt ls a b → Wre ls b c → Wre ls a c
theorem alike_self (x : Th) : alikeM x x = true := by unfold alikeM; simp
theorem meet_self {x : Th} {m : Int} (h : mayM x m = true) : meetM x x = true := by
  have : aheadM x x = true := by
    cases hr : x.r with
    | true =>
      unfold mayM at h
      rw [if_pos hr] at h
      simp only [Bool.and_eq_true] at h
      exact h.1.2
    | false =>
      unfold aheadM
      rw [(may_plain h hr).2]
      rfl
  unfold meetM
  rw [alike_self, this]
  rfl
/-- what is held waits for nothing -/
theorem held_free {ls : List LK} (h : Inv ls) {p k : Nat} {q l : LK} (hq : ls[p]? = some q) (hh : q.h = true) (hl : ls[k]? = some l) : waitM (ls.any (passP q)) q p l k = false := by
  cases hw : waitM (ls.any (passP q)) q p l k with
  | false => rfl
  | true =>
    exfalso
    have hg := h.good q (List.mem_of_getElem? hq)
    have hp : ls.any (passP q) = true := List.any_eq_true.2 ⟨q, List.mem_of_getElem? hq, by unfold passP; rw [hh, meet_self hg.may]; simp⟩
    unfold waitM at hw
    rw [hp] at hw
    simp only [Bool.not_true, Bool.and_false, Bool.or_false, Bool.and_eq_true] at hw
    exact h.apart k p l q hl hq hw.1.1.1 hh hw.1.1.2 hw.1.2 hw.2
/-- the last place of who waits -/
theorem last_place {ls : List LK} (hL : Last ls) {k r : Nat} {l b : LK} (hl : ls[k]? = some l) (hb : ls[r]? = some b) (hbh : b.h = false) (e : l.t = b.t) : lastsF ls k = r := by
  have key : ∀ n, r < n → n ≤ ls.length → lastTo ls b.t n = r := by
    intro n
    induction n with
    | zero => intro h; omega
    | succ n ih =>
      intro h1 h2
      unfold lastTo
      by_cases e' : (ls.getD n okz).t = b.t
      · rw [if_pos e']
        have hn : ls[n]? = some (ls[n]'(by omega)) := List.getElem?_eq_getElem _
        rcases Nat.lt_or_ge r n with h | h
        · rw [getD_of hn] at e'
          exact absurd e' (hL r n b _ hb hn h hbh)
        · omega
      · rw [if_neg e']
        refine ih ?_ (by omega)
        rcases Nat.lt_or_ge r n with h | h
        · exact h
        · obtain rfl : r = n := by omega
          rw [getD_of hb] at e'
          exact absurd rfl e'
  unfold lastsF
  rw [getD_of hl, e]
  exact key ls.length (List.getElem?_eq_some_iff.1 hb).1 (Nat.le_refl _)
theorem Ed.wt {ls : List LK} (h : Inv ls) {p r : Nat} (hp : p < ls.length) (he : Ed ls p r) : (ls.getD p okz).h = false ∧ Wt ls (tx ls p) (tx ls r) := by
  obtain ⟨k, hk, hv, rfl⟩ := he
  have hq : ls[p]? = some ls[p] := List.getElem?_eq_getElem hp
  have hl : ls[k]? = some ls[k] := List.getElem?_eq_getElem hk
  have ht := lastsF_t hk
  unfold Via at hv
  rw [getD_of hq, getD_of hl] at hv
  have hh : ls[p].h = false := by
    cases hh : ls[p].h with
    | false => rfl
    | true => rw [held_free h hq hh hl] at hv; cases hv
  rw [getD_of hq]
  refine ⟨hh, p, k, _, _, hq, hh, hl, hv, ?_, ?_⟩
  · unfold tx; rw [getD_of hq]
  · rw [ht]; unfold tx; rw [getD_of hl]
theorem Re.wre {ls : List LK} (h : Inv ls) {a b : Nat} (hr : Re ls a b) : a < ls.length → a = b ∨ Wre ls (tx ls a) (tx ls b) := by
  induction hr with
  | refl => exact fun _ => Or.inl rfl
  | step he _ ih =>
    intro ha
    right
    rcases ih he.lt with e | hw
    · rw [← e]; exact .one (he.wt h ha).2
    · exact .step (he.wt h ha).2 hw
/-- a place on a ring waits, and its transaction is on a ring -/
theorem Ring.wre {ls : List LK} (h : Inv ls) {p : Nat} (hp : p < ls.length) (hr : Ring ls p) : (ls.getD p okz).h = false ∧ Wre ls (tx ls p) (tx ls p) := by
  obtain ⟨b, he, hre⟩ := hr
  obtain ⟨h1, h2⟩ := he.wt h hp
  refine ⟨h1, ?_⟩
  rcases hre.wre h he.lt with e | hw
  · rw [e] at h2; exact .one h2
  · exact .step h2 hw
theorem Wre.back {ls : List LK} (hL : Last ls) {a b : Nat} (h : Wre ls a b) : ∀ (r : Nat) (y : LK), ls[r]? = some y → y.h = false → y.t = b → ∃ (p : Nat) (q : LK), ls[p]? = some q ∧ q.h = false ∧ q.t = a ∧ (∃ c, Ed ls p c ∧ Re ls c r) := by
  induction h with
  | one hw =>
    intro r y hy hh hb
    obtain ⟨p, k, q, l, hq, hqh, hl, hw, rfl, rfl⟩ := hw
    refine ⟨p, q, hq, hqh, rfl, r, ⟨k, (List.getElem?_eq_some_iff.1 hl).1, ?_, (last_place hL hl hy hh hb.symm).symm⟩, Re.refl r⟩
    unfold Via
    rw [getD_of hq, getD_of hl]
    exact hw
  | step hw _ ih =>
    intro r y hy hh hb
    obtain ⟨p2, q2, hq2, hqh2, ht2, c, he, hre⟩ := ih r y hy hh hb
    obtain ⟨p, k, q, l, hq, hqh, hl, hw, rfl, rfl⟩ := hw
    refine ⟨p, q, hq, hqh, rfl, p2, ⟨k, (List.getElem?_eq_some_iff.1 hl).1, ?_, (last_place hL hl hq2 hqh2 ht2.symm).symm⟩, .step he hre⟩
    unfold Via
    rw [getD_of hq, getD_of hl]
    exact hw
/-- a transaction on a ring has a place that waits and is on a ring -/
theorem Wre.ring {ls : List LK} (hI : Inv ls) (hL : Last ls) {a : Nat} (h : Wre ls a a) : ∃ (p : Nat) (q : LK), ls[p]? = some q ∧ q.h = false ∧ q.t = a ∧ Ring ls p := by
  have hw : ∃ (p : Nat) (q : LK), ls[p]? = some q ∧ q.h = false ∧ q.t = a := by
    cases h with
    | one h => obtain ⟨p, _, q, _, hq, hh, _, _, ht, _⟩ := h; exact ⟨p, q, hq, hh, ht⟩
    | step h _ => obtain ⟨p, _, q, _, hq, hh, _, _, ht, _⟩ := h; exact ⟨p, q, hq, hh, ht⟩
  obtain ⟨r, y, hy, hyh, hyt⟩ := hw
  obtain ⟨p, q, hq, hqh, hqt, c, he, hre⟩ := h.back hL r y hy hyh hyt
  obtain rfl : p = r := hI.one p r q y hq hy hqh hyh (by rw [hqt, hyt])
  exact ⟨p, q, hq, hqh, hqt, c, he, hre⟩
/-- WHAT VICTIM SAYS, by transactions: the greatest on a ring; 0 where there is none -/
theorem victim_says {ls : List LK} (hF : Fine ls) (hL : Last ls) (hlen : ls.length ≤ 16384) : ∃ s, ringsM ls (ls.length + 1) ls.length = some s ∧ (s.v = 0 ∨ Wre ls s.v s.v) ∧ ∀ a, Wre ls a a → a ≤ s.v := by
  obtain ⟨s, hs, h1, h2⟩ := rings_all hlen
  refine ⟨s, hs, ?_, fun a ha => ?_⟩
  · rcases h1 with h1 | ⟨p, hp, hr, hv⟩
    · exact Or.inl h1
    · right
      have := (hr.wre hF.1 hp).2
      rwa [← hv] at this
  · obtain ⟨p, q, hq, hh, ht, hr⟩ := ha.ring hF.1 hL
    have := h2 p (List.getElem?_eq_some_iff.1 hq).1 (by rw [getD_of hq]; exact hh) hr
    unfold tx at this
    rw [getD_of hq, ht] at this
    exact this
end Go.Proofs.YtlblgfpafdfilaaDoor
namespace Go.Proofs.YtlblgfpafdfilaaDoor
open Go.RowKit Go.Sort

theorem pigeon : ∀ (n : Nat) (x : Nat → Nat), (∀ i, i ≤ n → x i < n) → ∃ i j, i < j ∧ j ≤ n ∧ x i = x j
  | 0, x, h => absurd (h 0 (Nat.le_refl 0)) (Nat.not_lt_zero _)
  | n + 1, x, h => by
    by_cases hx : ∃ i, i ≤ n ∧ x i = x (n + 1)
    · obtain ⟨i, hi, e⟩ := hx
      exact ⟨i, n + 1, by omega, Nat.le_refl _, e⟩
    · have hne : ∀ i, i ≤ n → x i ≠ x (n + 1) := fun i hi e => hx ⟨i, hi, e⟩
      obtain ⟨i, j, hij, hj, e⟩ := pigeon n (fun i => if x (n + 1) < x i then x i - 1 else x i) fun i hi => by
        have h1 := h i (by omega)
        have h2 := h (n + 1) (Nat.le_refl _)
        have h3 := hne i hi
        show (if x (n + 1) < x i then x i - 1 else x i) < n
        split <;> omega
      refine ⟨i, j, hij, by omega, ?_⟩
      have h1 := hne i (by omega)
      have h2 := hne j hj
      split at e <;> split at e <;> omega
theorem Wre.trans {ls : List LK} {a b c : Nat} (h : Wre ls a b) (k : Wre ls b c) : Wre ls a c := by
  induction h with
  | one h => exact .step h k
  | step h _ ih => exact .step h (ih k)
/-- where nobody is on a ring, somebody doesn't wait -/
theorem someone {ls : List LK} (hF : Fine ls) (hne : ls ≠ []) (hno : ∀ a, ¬ Wre ls a a) : ∃ l ∈ ls, ls.any (waitsP l.t) = false := by
  by_cases hx : ∃ l ∈ ls, ls.any (waitsP l.t) = false
  · exact hx
  · exfalso
    have hall : ∀ l ∈ ls, ls.any (waitsP l.t) = true := fun l hl => by
      cases h : ls.any (waitsP l.t) with
      | true => rfl
      | false => exact absurd ⟨l, hl, h⟩ hx
    have hstep : ∀ p, p < ls.length → ∃ r, r < ls.length ∧ Wt ls (tx ls p) (tx ls r) := fun p hp => by
      have hq : ls[p]? = some ls[p] := List.getElem?_eq_getElem hp
      obtain ⟨y, hy, hw⟩ := List.any_eq_true.1 (hall _ (List.mem_of_getElem? hq))
      unfold waitsP at hw
      simp only [Bool.and_eq_true, beq_iff_eq, Bool.not_eq_true'] at hw
      obtain ⟨i, hi⟩ := List.getElem?_of_mem hy
      obtain ⟨k, l, hl, hw2⟩ := freeM_false hi (hF.2 i y (List.getElem?_eq_some_iff.1 hi).1 hi hw.2)
      refine ⟨k, (List.getElem?_eq_some_iff.1 hl).1, i, k, y, l, hi, hw.2, hl, hw2, ?_, ?_⟩
      · unfold tx; rw [getD_of hq]; exact hw.1
      · unfold tx; rw [getD_of hl]
    obtain ⟨g, hg⟩ : ∃ g : Nat → Nat, ∀ p, p < ls.length → g p < ls.length ∧ Wt ls (tx ls p) (tx ls (g p)) := by
      refine ⟨fun p => if h : p < ls.length then Classical.choose (hstep p h) else 0, fun p hp => ?_⟩
      simp only [dif_pos hp]
      exact Classical.choose_spec (hstep p hp)
    have h0 : 0 < ls.length := List.length_pos_iff.2 hne
    have hit : ∀ i, (Nat.repeat g i 0) < ls.length := fun i => by
      induction i with
      | zero => exact h0
      | succ i ih => exact (hg _ ih).1
    have hre : ∀ i d, Wre ls (tx ls (Nat.repeat g i 0)) (tx ls (Nat.repeat g (i + (d + 1)) 0)) := fun i d => by
      induction d with
      | zero => exact .one (hg _ (hit i)).2
      | succ d ih => exact ih.trans (.one (hg _ (hit _)).2)
    obtain ⟨i, j, hij, _, e⟩ := pigeon ls.length (fun i => Nat.repeat g i 0) fun i _ => hit i
    have := hre i (j - i - 1)
    rw [show i + (j - i - 1 + 1) = j by omega] at this
    rw [← e] at this
    exact hno _ this
/-- one place of the pass: what is on a ring behind it was on one ahead of it -/
theorem wt_hold {ls : List LK} (hI : Inv ls) {n : Nat} {q : LK} (hq : ls[n]? = some q) (hh : q.h = false) {a b : Nat} (h : Wt (setH ls n true) a b) (hb : ∃ (r : Nat) (y : LK), (setH ls n true)[r]? = some y ∧ y.h = false ∧ y.t = b) : Wt ls a b := by
  obtain ⟨p, k, q', l, hq', hqh', hl, hw, ha, hlb⟩ := h
  rw [setH_at hq] at hq' hl
  have hpn : p ≠ n := fun e => by
    rw [if_pos e] at hq'
    injection hq' with hq'
    rw [← hq'] at hqh'
    cases hqh'
  rw [if_neg hpn] at hq'
  have hne : q.t ≠ q'.t := fun e => hpn (hI.one p n q' q hq' hq hqh' hh e.symm)
  rw [pass_setH hq q' hne] at hw
  by_cases e : k = n
  · exfalso
    rw [if_pos e] at hl
    injection hl with hl
    obtain ⟨r, y, hy, hyh, hyt⟩ := hb
    rw [setH_at hq] at hy
    by_cases e2 : r = n
    · rw [if_pos e2] at hy
      injection hy with hy
      rw [← hy] at hyh
      cases hyh
    · rw [if_neg e2] at hy
      exact e2 (hI.one r n y q hy hq hyh hh (by rw [hyt, ← hlb, ← hl]))
  · rw [if_neg e] at hl
    exact ⟨p, k, q', l, hq', hqh', hl, hw, ha, hlb⟩
def Waits (ls : List LK) (b : Nat) : Prop := ∃ (r : Nat) (y : LK), ls[r]? = some y ∧ y.h = false ∧ y.t = b
theorem Wt.waits {ls : List LK} {a b : Nat} (h : Wt ls a b) : Waits ls a := by
  obtain ⟨p, _, q, _, hq, hh, _, _, ha, _⟩ := h
  exact ⟨p, q, hq, hh, ha⟩
theorem Wre.waits {ls : List LK} {a b : Nat} (h : Wre ls a b) : Waits ls a := by
  cases h with
  | one h => exact h.waits
  | step h _ => exact h.waits
theorem wre_lift {ls ls' : List LK} (h : ∀ a b, Wt ls' a b → Waits ls' b → Wt ls a b) {a b : Nat} (hr : Wre ls' a b) (hb : Waits ls' b) : Wre ls a b := by
  induction hr with
  | one hw => exact .one (h _ _ hw hb)
  | step hw hr ih => exact .step (h _ _ hw hr.waits) (ih hb)
theorem wt_pass {ls : List LK} (hI : Inv ls) : ∀ n, n ≤ ls.length → ∀ a, Wre (passM ls n).1 a a → Wre ls a a
  | 0, _, a, h => h
  | n + 1, hn, a, h => by
    refine wt_pass hI n (by omega) a ?_
    have hl := (passM_len ls n).1
    have hq : (passM ls n).1[n]? = some ((passM ls n).1[n]'(by omega)) := List.getElem?_eq_getElem _
    generalize (passM ls n).1[n]'(by omega) = q at hq
    rw [passM_succ] at h
    unfold relS at h
    rw [getD_of hq] at h
    split at h
    · exact h
    · rename_i hh
      have hh' : q.h = false := by simpa using hh
      rcases setH_cases hq hh' (freeM (passM ls n).1 n) with ⟨_, e⟩ | ⟨_, e⟩
      · simp only at h
        rw [e] at h
        exact wre_lift (fun a b hw hb => wt_hold (inv_pass hI n (by omega)).1 hq hh' hw hb) h h.waits
      · simp only at h
        rw [e] at h
        exact h
theorem filter_map_ {P : LK → Bool} : ∀ ls : List LK, ∃ φ : Nat → Nat, (∀ i j, i < j → φ i < φ j) ∧ ∀ i x, (ls.filter P)[i]? = some x → ls[φ i]? = some x
  | [] => ⟨id, fun _ _ h => h, fun i x h => by simp at h⟩
  | y :: r => by
    obtain ⟨φ, h1, h2⟩ := filter_map_ (P := P) r
    cases hy : P y with
    | true =>
      refine ⟨fun i => if i = 0 then 0 else φ (i - 1) + 1, fun i j hij => ?_, fun i x h => ?_⟩
      · show (if i = 0 then 0 else φ (i - 1) + 1) < (if j = 0 then 0 else φ (j - 1) + 1)
        by_cases e : i = 0
        · rw [if_pos e, if_neg (by omega)]
          omega
        · rw [if_neg e, if_neg (by omega)]
          have := h1 (i - 1) (j - 1) (by omega)
          omega
      · rw [List.filter_cons_of_pos hy] at h
        cases i with
        | zero => simpa using h
        | succ i =>
          simp only [List.getElem?_cons_succ] at h
          simp only [Nat.add_one_ne_zero, if_false, Nat.add_sub_cancel, List.getElem?_cons_succ]
          exact h2 i x h
    | false =>
      refine ⟨fun i => φ i + 1, fun i j hij => Nat.succ_lt_succ (h1 i j hij), fun i x h => ?_⟩
      rw [List.filter_cons_of_neg (by rw [hy]; exact Bool.false_ne_true)] at h
      simp only [List.getElem?_cons_succ]
      exact h2 i x h
theorem wt_kept {ls : List LK} {t a b : Nat} (h : Wt (keptM t ls) a b) : Wt ls a b := by
  obtain ⟨p, k, q, l, hq, hh, hl, hw, ha, hb⟩ := h
  obtain ⟨φ, h1, h2⟩ := filter_map_ (P := fun l => !(l.t == t)) ls
  have hqm := (List.mem_filter.1 (List.mem_of_getElem? hq)).2
  have hpass : (keptM t ls).any (passP q) = ls.any (passP q) := by
    rw [Bool.eq_iff_iff, List.any_eq_true, List.any_eq_true]
    constructor
    · rintro ⟨x, hx, hp⟩
      exact ⟨x, (List.mem_filter.1 hx).1, hp⟩
    · rintro ⟨x, hx, hp⟩
      refine ⟨x, List.mem_filter.2 ⟨hx, ?_⟩, hp⟩
      unfold passP at hp
      simp only [Bool.and_eq_true, beq_iff_eq] at hp
      rw [hp.1.1]
      exact hqm
  rw [hpass] at hw
  refine ⟨φ p, φ k, q, l, h2 p q hq, hh, h2 k l hl, ?_, ha, hb⟩
  unfold waitM at hw ⊢
  simp only [Bool.and_eq_true, Bool.or_eq_true, decide_eq_true_eq] at hw ⊢
  exact ⟨⟨⟨hw.1.1.1.imp id fun h => ⟨h1 k p h.1, h.2⟩, hw.1.1.2⟩, hw.1.2⟩, hw.2⟩
theorem wre_kept {ls : List LK} {t a b : Nat} (h : Wre (keptM t ls) a b) : Wre ls a b := by
  induction h with
  | one h => exact .one (wt_kept h)
  | step h _ ih => exact .step (wt_kept h) ih
/-- giving back makes no ring -/
theorem wre_release {ls : List LK} (hI : Inv ls) {t a : Nat} (h : Wre (releaseM t ls).1 a a) : Wre ls a a := wre_kept (wt_pass (hI.kept t) _ (Nat.le_refl _) a h)
/-- and takes something away -/
theorem release_less {ls : List LK} {t : Nat} {l : LK} (hl : l ∈ ls) (ht : l.t = t) : (releaseM t ls).1.length < ls.length := by
  unfold releaseM
  rw [(passM_len _ _).1]
  unfold keptM
  rcases Nat.lt_or_ge (ls.filter fun l => !(l.t == t)).length ls.length with h | h
  · exact h
  · exfalso
    have e := List.length_filter_eq_length_iff.1 (Nat.le_antisymm (List.length_filter_le _ _) h) l hl
    rw [ht] at e
    simp at e
end Go.Proofs.YtlblgfpafdfilaaDoor
