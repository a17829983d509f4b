/-
THE PLAIN MATHEMATICS OF STAGE 7: cells, pages, which may be, their size, their room.
-/
import Derived.Lib.Bytealg
import Derived.Test.YtcajidlekfkjlaaRows
namespace Go.Proofs.Ytcajidlekfkjlaa

def u8l (l : List Nat) : List UInt8 := l.map UInt8.ofNat
/-- the order of bytes -/
def ltb (a b : List Nat) : Bool := Op.bytesLess (u8l a) (u8l b)
set_option maxRecDepth 100000 in
theorem cmp_ge : ∀ a b : List UInt8, decide (Lib.compareBytes a b ≥ 0) = !(Op.bytesLess a b)
  | [], [] => by simp [Lib.compareBytes, Op.bytesLess]
  | [], _ :: _ => by simp [Lib.compareBytes, Op.bytesLess]
  | _ :: _, [] => by simp [Lib.compareBytes, Op.bytesLess]
  | a :: x, b :: y => by
    have ih := cmp_ge x y
    unfold Lib.compareBytes Op.bytesLess
    by_cases h1 : a < b
    · simp [h1]
    · by_cases h2 : b < a
      · have hne : (a == b) = false := by
          rw [beq_eq_false_iff_ne]
          intro e
          rw [e] at h2
          exact absurd h2 (by simp [UInt8.lt_irrefl])
        simp [h1, h2, hne]
      · have he : a = b := UInt8.le_antisymm (UInt8.not_lt.1 h2) (UInt8.not_lt.1 h1)
        subst he
        simp [ih]
/-- a cell -/
structure CE where
  u : Bool
  k : Nat
  d : List Nat
deriving DecidableEq
def cz : CE := ⟨false, 0, []⟩
def cmay (c : CE) : Bool := if c.u then decide (1 ≤ c.d.length) && decide (c.d.length ≤ 180) else c.k == 0 && c.d.length == 0
def csz (c : CE) : Nat := if c.u then 6 + c.d.length else 2
def psz (l : List CE) : Nat := 18 + (l.map csz).sum
def ent (e : Nat) (d : List Nat) : List Nat := d.take (d.length - e)
def okAt (e : Nat) (l : List CE) (i : Nat) : Bool := (l.getD i cz).u && (i == 0 || ltb (ent e (l.getD (i - 1) cz).d) (ent e (l.getD i cz).d))
def rise (e : Nat) (l : List CE) : Bool := (List.range l.length).all (okAt e l)
def innc (c : CE) : Bool := c.k == 0 && decide (4 < c.d.length)
def lastU (l : List CE) : Bool := l.length == 0 || (l.getD (l.length - 1) cz).u
def stand (k : Int) (l : List CE) : Bool := if k = 1 then lastU l else if k = 3 then l.all innc && rise 4 l else if k = 2 then rise 0 l else false
def may (k : Int) (l : List CE) : Bool := decide (l.length ≤ 60) && (l.all cmay && (decide (psz l ≤ 512) && stand k l))
set_option maxRecDepth 100000 in
theorem psz_take {l : List CE} {i : Nat} {c : CE} (h : l[i]? = some c) : psz (l.take (i + 1)) = psz (l.take i) + csz c := by
  have hi : i < l.length := by
    rcases Nat.lt_or_ge i l.length with h' | h'
    · exact h'
    · rw [List.getElem?_eq_none h'] at h; cases h
  have e : l[i] = c := by rw [List.getElem?_eq_getElem hi] at h; injection h
  unfold psz
  rw [List.take_succ_eq_append_getElem hi, e]
  simp
  omega
set_option maxRecDepth 100000 in
theorem psz_nil : psz ([] : List CE) = 18 := rfl
set_option maxRecDepth 100000 in
theorem psz_zero (l : List CE) : psz (l.take 0) = 18 := rfl
set_option maxRecDepth 100000 in
theorem csz_le {n : Nat} {c : CE} (h : c.d.length ≤ n) : csz c ≤ 6 + n := by unfold csz; split <;> omega
set_option maxRecDepth 100000 in
theorem psz_le (n : Nat) : ∀ l : List CE, (∀ c ∈ l, c.d.length ≤ n) → psz l ≤ 18 + l.length * (6 + n)
  | [], _ => by simp [psz]
  | c :: l, h => by
    have h1 := psz_le n l fun x hx => h x (by simp [hx])
    have h2 := csz_le (h c (by simp))
    unfold psz at h1 ⊢
    simp only [List.map_cons, List.sum_cons, List.length_cons, Nat.add_mul, Nat.one_mul]
    omega
/-- the page that the document's rules let be: cell by cell -/
def ordr (k : Int) (c : CE) : List Nat := if k = 3 then (if 4 ≤ c.d.length then ent 4 c.d else c.d) else c.d
def rAt (k : Int) (l : List CE) (i : Nat) : Bool :=
  let c := l.getD i cz
  (if c.u then decide (1 ≤ c.d.length) && decide (c.d.length ≤ 180) else decide (c.d.length = 0) && decide (c.k = 0)) &&
  ((k == 1 || c.u) && ((!(k == 3) || (decide (5 ≤ c.d.length) && decide (c.k = 0))) &&
  ((k == 1 || i == 0 || ltb (ordr k (l.getD (i - 1) cz)) (ordr k c)) && (!(k == 1) || !(i == l.length - 1) || c.u))))
def rmay (k : Int) (l : List CE) : Bool := decide (1 ≤ k) && (decide (k ≤ 3) && (decide (l.length ≤ 60) && ((List.range l.length).all (rAt k l) && decide (psz l ≤ 512))))
set_option maxRecDepth 100000 in
theorem all_at {l : List CE} {f : CE → Bool} : l.all f = true ↔ ∀ i, i < l.length → f (l.getD i cz) = true := by
  rw [List.all_eq_true]
  constructor
  · intro h i hi
    have : l.getD i cz = l[i] := by simp [hi]
    rw [this]
    exact h _ (List.getElem_mem hi)
  · intro h c hc
    obtain ⟨i, hi, rfl⟩ := List.getElem_of_mem hc
    have : l.getD i cz = l[i] := by simp [hi]
    rw [← this]
    exact h i hi
set_option maxRecDepth 100000 in
theorem all_rng {n : Nat} {f : Nat → Bool} : (List.range n).all f = true ↔ ∀ i, i < n → f i = true := by
  simp [List.all_eq_true]
set_option maxRecDepth 100000 in
theorem ent_zero (d : List Nat) : ent 0 d = d := by simp [ent]
set_option maxRecDepth 100000 in
theorem rmay_eq (k : Int) (l : List CE) : rmay k l = may k l := by
  rw [Bool.eq_iff_iff]
  unfold rmay may
  simp only [Bool.and_eq_true, decide_eq_true_eq, all_at, all_rng]
  have hu : ∀ c : CE, (if c.u then decide (1 ≤ c.d.length) && decide (c.d.length ≤ 180) else decide (c.d.length = 0) && decide (c.k = 0)) = cmay c := by
    intro c
    unfold cmay
    cases c.u <;> simp
    rw [Bool.eq_iff_iff]
    simp [and_comm]
  constructor
  · rintro ⟨h1, h3, hl, ha, hz⟩
    refine ⟨hl, fun i hi => ?_, hz, ?_⟩
    · have := ha i hi
      unfold rAt at this
      simp only [Bool.and_eq_true, hu] at this
      exact this.1
    · unfold stand
      have hk : k = 1 ∨ k = 2 ∨ k = 3 := by omega
      rcases hk with rfl | rfl | rfl
      · rw [if_pos rfl]
        unfold lastU
        by_cases h0 : l.length = 0
        · simp [h0]
        · have := ha (l.length - 1) (by omega)
          unfold rAt at this
          simp only [Bool.and_eq_true] at this
          have h5 := this.2.2.2.2
          simp at h5
          simp only [Bool.or_eq_true]
          right
          simpa using h5
      · rw [if_neg (by decide), if_neg (by decide), if_pos rfl]
        unfold rise
        rw [all_rng]
        intro i hi
        have := ha i hi
        unfold rAt at this
        simp only [Bool.and_eq_true] at this
        have h2 := this.2.1
        have h4 := this.2.2.2.1
        unfold okAt
        simp only [ent_zero]
        simp [ordr] at h2 h4
        simp only [Bool.and_eq_true, Bool.or_eq_true]
        exact ⟨by simpa using h2, by rcases h4 with h | h; left; simpa using h; right; simpa using h⟩
      · rw [if_neg (by decide), if_pos rfl]
        simp only [Bool.and_eq_true, all_at]
        have hin : ∀ i, i < l.length → 5 ≤ (l.getD i cz).d.length ∧ (l.getD i cz).k = 0 := by
          intro i hi
          have := ha i hi
          unfold rAt at this
          simp only [Bool.and_eq_true] at this
          have h3 := this.2.2.1
          simpa using h3
        refine ⟨fun i hi => by unfold innc; have := hin i hi; simp only [Bool.and_eq_true, beq_iff_eq, decide_eq_true_eq]; omega, ?_⟩
        unfold rise
        rw [all_rng]
        intro i hi
        have := ha i hi
        unfold rAt at this
        simp only [Bool.and_eq_true] at this
        have h2 := this.2.1
        have h4 := this.2.2.2.1
        unfold okAt
        simp only [Bool.and_eq_true, Bool.or_eq_true]
        refine ⟨by simpa using h2, ?_⟩
        by_cases hi0 : i = 0
        · left; simp [hi0]
        · right
          have a := hin i hi
          have b := hin (i - 1) (by omega)
          simp only [Bool.or_eq_true] at h4
          rcases h4 with (h4 | h4) | h4
          · simp at h4
          · simp [hi0] at h4
          · rw [ordr, if_pos rfl, if_pos (by omega), ordr, if_pos rfl, if_pos (by omega)] at h4
            exact h4
  · rintro ⟨hl, hc, hz, hs⟩
    have hk : k = 1 ∨ k = 2 ∨ k = 3 := by
      unfold stand at hs
      by_cases h1 : k = 1
      · exact Or.inl h1
      · by_cases h3 : k = 3
        · exact Or.inr (Or.inr h3)
        · by_cases h2 : k = 2
          · exact Or.inr (Or.inl h2)
          · rw [if_neg h1, if_neg h3, if_neg h2] at hs; cases hs
    refine ⟨by omega, by omega, hl, fun i hi => ?_, hz⟩
    unfold rAt
    simp only [Bool.and_eq_true, hu]
    refine ⟨hc i hi, ?_⟩
    unfold stand at hs
    rcases hk with rfl | rfl | rfl
    · rw [if_pos rfl] at hs
      unfold lastU at hs
      refine ⟨by simp, by simp, by simp, ?_⟩
      by_cases hii : i = l.length - 1
      · subst hii
        have h0 : (l.length == 0) = false := beq_false_of_ne (by omega)
        rw [h0, Bool.false_or] at hs
        rw [hs]; simp
      · have : (i == l.length - 1) = false := beq_false_of_ne hii
        simp [this]
    · rw [if_neg (by decide), if_neg (by decide), if_pos rfl] at hs
      unfold rise at hs
      rw [all_rng] at hs
      have := hs i hi
      unfold okAt at this
      simp only [ent_zero, Bool.and_eq_true, Bool.or_eq_true] at this
      refine ⟨by rw [this.1]; simp, by simp, ?_, by simp⟩
      simp only [Bool.or_eq_true, ordr]
      rcases this.2 with h | h
      · left; right; exact h
      · right; simpa using h
    · rw [if_neg (by decide), if_pos rfl] at hs
      simp only [Bool.and_eq_true, all_at] at hs
      obtain ⟨hin, hr⟩ := hs
      unfold rise at hr
      rw [all_rng] at hr
      have h := hr i hi
      unfold okAt at h
      simp only [Bool.and_eq_true, Bool.or_eq_true] at h
      have hi1 := hin i hi
      unfold innc at hi1
      simp only [Bool.and_eq_true, beq_iff_eq, decide_eq_true_eq] at hi1
      refine ⟨by rw [h.1]; simp, ?_, ?_, by simp⟩
      · simp only [Bool.or_eq_true, Bool.and_eq_true, decide_eq_true_eq]
        right
        exact ⟨by omega, hi1.1⟩
      · simp only [Bool.or_eq_true]
        rcases h.2 with h' | h'
        · left; right; exact h'
        · by_cases hi0 : i = 0
          · left; right; simp [hi0]
          · right
            have hi2 := hin (i - 1) (by omega)
            unfold innc at hi2
            simp only [Bool.and_eq_true, beq_iff_eq, decide_eq_true_eq] at hi2
            rw [ordr, if_pos rfl, if_pos (by omega), ordr, if_pos rfl, if_pos (by omega)]
            exact h'
end Go.Proofs.Ytcajidlekfkjlaa
