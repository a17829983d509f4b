/-
  THE PLAIN MATHEMATICS OF STAGE 5: names, columns, whether a row fits, a row's text, which row a text is. No program.
-/
import Derived.Test.YtiilhnedflmgoaaMath
namespace Go.Proofs.Ytiilhnedflmgoaa

/-- a column: its name, its kind, whether it must have a value -/
structure C where
  nm : ByteArray
  k : Int
  nd : Bool
def letter (x : Nat) : Bool := decide (97 ≤ x ∧ x ≤ 122)
def digit (x : Nat) : Bool := decide (48 ≤ x ∧ x ≤ 57)
def okb (x : Nat) : Bool := letter x || digit x || decide (x = 95)
def isName (s : ByteArray) : Bool := decide (1 ≤ s.size) && decide (s.size ≤ 24) && letter ((sb s).getD 0 0) && (sb s).all okb
def kindOk (k : Int) : Bool := decide (k = 1 ∨ k = 2 ∨ k = 3)
def colOk (c : C) : Bool := isName c.nm && kindOk c.k
def fresh (c : C) : List C → Bool
  | [] => true
  | d :: r => !(seq d.nm c.nm) && fresh c r
def nodup : List C → Bool
  | [] => true
  | c :: r => fresh c r && nodup r
def mayC (cs : List C) : Bool := decide (1 ≤ cs.length) && decide (cs.length ≤ 16) && cs.all colOk && nodup cs

theorem fresh_iff (c : C) (l : List C) : fresh c l = true ↔ ∀ d ∈ l, seq d.nm c.nm = false := by
  induction l with
  | nil => simp [fresh]
  | cons d r ih => simp [fresh, ih]
theorem nodup_iff (l : List C) : nodup l = true ↔ ∀ (i j : Nat) (a b : C), i < j → l[i]? = some a → l[j]? = some b → seq b.nm a.nm = false := by
  induction l with
  | nil => simp [nodup]
  | cons c r ih =>
    simp only [nodup, Bool.and_eq_true, fresh_iff, ih]
    constructor
    · rintro ⟨h1, h2⟩ i j a b hij ha hb
      cases j with
      | zero => omega
      | succ j =>
        simp at hb
        cases i with
        | zero =>
          simp at ha
          subst ha
          exact h1 b (List.mem_of_getElem? hb)
        | succ i =>
          simp at ha
          exact h2 i j a b (by omega) ha hb
    · intro h
      constructor
      · intro d hd
        obtain ⟨j, hj⟩ := List.getElem?_of_mem hd
        exact h 0 (j + 1) c d (by omega) rfl (by simpa using hj)
      · intro i j a b hij ha hb
        exact h (i + 1) (j + 1) a b (by omega) (by simpa using ha) (by simpa using hb)
theorem mayC_iff (cs : List C) : mayC cs = true ↔ 1 ≤ cs.length ∧ cs.length ≤ 16 ∧ (∀ c ∈ cs, colOk c = true) ∧ nodup cs = true := by
  simp [mayC, and_assoc]
theorem mayC_long {cs : List C} (h : ¬ (1 ≤ cs.length ∧ cs.length ≤ 16)) : mayC cs = false := by
  rw [Bool.eq_false_iff]
  intro e
  rw [mayC_iff] at e
  exact h ⟨e.1, e.2.1⟩
theorem mayC_bad {cs : List C} {k : Nat} {c : C} (h : cs[k]? = some c) (hc : colOk c = false) : mayC cs = false := by
  rw [Bool.eq_false_iff]
  intro e
  rw [mayC_iff] at e
  have := e.2.2.1 c (List.mem_of_getElem? h)
  rw [hc] at this
  cases this
theorem mayC_twin {cs : List C} {i j : Nat} {a b : C} (hij : i < j) (ha : cs[i]? = some a) (hb : cs[j]? = some b) (h : seq b.nm a.nm = true) : mayC cs = false := by
  rw [Bool.eq_false_iff]
  intro e
  rw [mayC_iff] at e
  have := (nodup_iff cs).1 e.2.2.2 i j a b hij ha hb
  rw [h] at this
  cases this
theorem kind_of {cs : List C} (h : mayC cs = true) {c : C} (hc : c ∈ cs) : c.k = 1 ∨ c.k = 2 ∨ c.k = 3 := by
  have := ((mayC_iff cs).1 h).2.2.1 c hc
  simp [colOk, kindOk] at this
  exact this.2

/-! ### Whether a row fits -/
def fit1 (c : C) (v : V) : Int := if v.may = false then 5 else if v.k = 0 then (if c.nd then 50 else 0) else if v.k = c.k then 0 else 30
def fits2 : List C → List V → Int
  | c :: cs, v :: vs => if fit1 c v = 0 then fits2 cs vs else fit1 c v
  | _, _ => 0
def fitsE (cs : List C) (vs : List V) : Int := if mayC cs = false then 1 else if vs.length ≠ cs.length then 1 else fits2 cs vs
theorem drop_get {α : Type} {l : List α} {k : Nat} {a : α} (h : l[k]? = some a) : l.drop k = a :: l.drop (k + 1) := by
  obtain ⟨hl, e⟩ := List.getElem?_eq_some_iff.1 h
  rw [List.drop_eq_getElem_cons hl, e]
theorem fits2_step {cs : List C} {vs : List V} {k : Nat} {c : C} {v : V} (hc : cs[k]? = some c) (hv : vs[k]? = some v) :
    fits2 (cs.drop k) (vs.drop k) = if fit1 c v = 0 then fits2 (cs.drop (k + 1)) (vs.drop (k + 1)) else fit1 c v := by
  rw [drop_get hc, drop_get hv]
  rfl
theorem fits2_end {cs : List C} {vs : List V} {k : Nat} (h : cs.length ≤ k) : fits2 (cs.drop k) (vs.drop k) = 0 := by
  rw [List.drop_of_length_le h]
  rfl
theorem fits2_may {cs : List C} {vs : List V} (hl : vs.length = cs.length) (h : fits2 cs vs = 0) : vs.all V.may = true := by
  induction cs generalizing vs with
  | nil => cases vs with
    | nil => rfl
    | cons v vs => simp at hl
  | cons c cs ih =>
    cases vs with
    | nil => rfl
    | cons v vs =>
      simp only [fits2] at h
      split at h
      · rename_i h0
        have hv : v.may = true := by
          unfold fit1 at h0
          split at h0
          · omega
          · rename_i hm; simpa using hm
        simp [hv]
        simpa using ih (by simpa using hl) h
      · contradiction
theorem fitsE_zero {cs : List C} {vs : List V} (h : fitsE cs vs = 0) : mayC cs = true ∧ vs.length = cs.length ∧ fits2 cs vs = 0 := by
  unfold fitsE at h
  split at h
  · omega
  · rename_i h1
    split at h
    · omega
    · rename_i h2
      exact ⟨by simpa using h1, by omega, h⟩
theorem fitsE_ok {cs : List C} {vs : List V} (h1 : mayC cs = true) (h2 : vs.length = cs.length) (h3 : fits2 cs vs = 0) : fitsE cs vs = 0 := by
  unfold fitsE
  rw [if_neg (by simp [h1]), if_neg (by omega)]
  exact h3
theorem fit1_kind {c : C} {v : V} (h : fit1 c v = 0) : v.may = true ∧ (v.k = 0 ∨ v.k = c.k) := by
  unfold fit1 at h
  split at h
  · omega
  · rename_i hm
    refine ⟨by simpa using hm, ?_⟩
    split at h
    · left; assumption
    · split at h
      · right; assumption
      · omega

/-! ### A row's text -/
def nullAt (vs : List V) (i : Nat) : Bool := match vs[i]? with | some v => v.k == 0 | none => false
def mB (n : Nat) : Nat := (n + 7) / 8
def bitAt (m : List Nat) (i : Nat) : Bool := (m.getD (i / 8) 0).testBit (i % 8)
def mk (vs : List V) : Nat → List Nat
  | 0 => List.replicate (mB vs.length) 0
  | j + 1 => if nullAt vs j then (mk vs j).set (j / 8) ((mk vs j).getD (j / 8) 0 ||| 2 ^ (j % 8)) else mk vs j
def marks (vs : List V) : List Nat := mk vs vs.length
def one (v : V) : List Nat := if v.k = 0 then [] else if v.k = 1 then Cd.vi (Cd.zz v.n) else if v.k = 2 then Cd.tx (sb v.s) else [v.n.toNat]
def ones : List V → List Nat
  | [] => []
  | v :: r => one v ++ ones r
def txt (vs : List V) : List Nat := marks vs ++ ones vs
def encE (cs : List C) (vs : List V) : Int := if fitsE cs vs ≠ 0 then fitsE cs vs else if 160 < (txt vs).length then 51 else 0
def encS (cs : List C) (vs : List V) : ByteArray := if encE cs vs = 0 then bs (txt vs) else ⟨#[]⟩

theorem mk_len (vs : List V) (j : Nat) : (mk vs j).length = mB vs.length := by
  induction j with
  | zero => simp [mk]
  | succ j ih =>
    simp only [mk]
    split
    · simp [ih]
    · exact ih
theorem getD_set (l : List Nat) (i j x : Nat) (h : i < l.length) : (l.set i x).getD j 0 = if i = j then x else l.getD j 0 := by
  simp only [List.getD_eq_getElem?_getD, List.getElem?_set]
  by_cases e : i = j
  · rw [if_pos e, if_pos e, if_pos h]
    rfl
  · rw [if_neg e, if_neg e]
theorem mk_bit (vs : List V) (j : Nat) (hj : j ≤ vs.length) (i : Nat) : bitAt (mk vs j) i = (decide (i < j) && nullAt vs i) := by
  induction j with
  | zero =>
    simp only [mk, bitAt, List.getD_eq_getElem?_getD, List.getElem?_replicate]
    split <;> simp
  | succ j ih =>
    have ih := ih (by omega)
    have hlt : j / 8 < (mk vs j).length := by rw [mk_len]; unfold mB; omega
    by_cases hn : nullAt vs j = true
    · simp only [mk, hn, if_true]
      unfold bitAt at ih ⊢
      rw [getD_set _ _ _ _ hlt]
      by_cases he : j / 8 = i / 8
      · rw [if_pos he, Nat.testBit_or, he, ih, Nat.testBit_two_pow]
        by_cases hij : i = j
        · subst hij
          simp [hn]
        · have : ¬ j % 8 = i % 8 := by omega
          simp only [this, decide_false, Bool.or_false]
          congr 1
          simp only [decide_eq_decide]
          omega
      · rw [if_neg he, ih]
        congr 1
        simp only [decide_eq_decide]
        omega
    · have hn' : nullAt vs j = false := by simpa using hn
      simp only [mk, hn', Bool.false_eq_true, if_false]
      rw [ih]
      by_cases hij : i = j
      · subst hij
        simp [hn']
      · congr 1
        simp only [decide_eq_decide]
        omega
theorem mk_lt (vs : List V) (j : Nat) : ∀ x ∈ mk vs j, x < 256 := by
  induction j with
  | zero =>
    intro x hx
    simp only [mk, List.mem_replicate] at hx
    omega
  | succ j ih =>
    simp only [mk]
    split
    · intro x hx
      rcases List.mem_or_eq_of_mem_set hx with hx | hx
      · exact ih x hx
      · rw [hx]
        have h1 : (mk vs j).getD (j / 8) 0 < 2 ^ 8 := by
          rw [List.getD_eq_getElem?_getD]
          rcases Nat.lt_or_ge (j / 8) (mk vs j).length with h | h
          · rw [List.getElem?_eq_getElem h]
            exact ih _ (List.getElem_mem _)
          · rw [List.getElem?_eq_none h]
            simp
        exact Nat.or_lt_two_pow h1 (Nat.pow_lt_pow_right (by omega) (by omega))
    · exact ih
/-- the byte that is marked next has no bit at that place or above -/
theorem mk_low (vs : List V) (j : Nat) (hj : j ≤ vs.length) : (mk vs j).getD (j / 8) 0 < 2 ^ (j % 8) := by
  have h1 : (mk vs j).getD (j / 8) 0 < 2 ^ 8 := by
    rw [List.getD_eq_getElem?_getD]
    rcases Nat.lt_or_ge (j / 8) (mk vs j).length with h | h
    · rw [List.getElem?_eq_getElem h]
      exact mk_lt vs j _ (List.getElem_mem _)
    · rw [List.getElem?_eq_none h]
      simp
  apply Nat.lt_pow_two_of_testBit
  intro i hi
  by_cases h8 : i < 8
  · have := mk_bit vs j hj (8 * (j / 8) + i)
    unfold bitAt at this
    rw [show (8 * (j / 8) + i) / 8 = j / 8 by omega, show (8 * (j / 8) + i) % 8 = i by omega] at this
    rw [this]
    have : ¬ 8 * (j / 8) + i < j := by omega
    simp [this]
  · exact Nat.testBit_lt_two_pow (Nat.lt_of_lt_of_le h1 (Nat.pow_le_pow_right (by omega) (by omega)))
theorem plus_or (x k : Nat) (h : x < 2 ^ k) : x + 2 ^ k = x ||| 2 ^ k := by
  have := Nat.two_pow_add_eq_or_of_lt h 1
  rw [Nat.mul_one] at this
  rw [Nat.add_comm, this, Nat.or_comm]
theorem one_lt (v : V) (h : v.may = true) : ∀ x ∈ one v, x < 256 := by
  unfold one
  split
  · simp
  · split
    · exact Cd.vi_lt _
    · split
      · intro x hx
        simp only [Cd.tx, List.mem_append] at hx
        rcases hx with hx | hx
        · exact Cd.vi_lt _ x hx
        · exact sb_lt _ x hx
      · rename_i h0 h1 h2
        intro x hx
        simp only [List.mem_singleton] at hx
        subst hx
        simp [V.may, may, h0, h1, h2] at h
        omega
theorem ones_append (a b : List V) : ones (a ++ b) = ones a ++ ones b := by
  induction a with
  | nil => rfl
  | cons v r ih => simp [ones, ih]
theorem one_len (v : V) (h : v.may = true) (hn : N64 v) : (one v).length ≤ 74 := by
  unfold one
  split
  · simp
  · split
    · have := Cd.vi_len10 (Cd.zz v.n) (Cd.zz_lt v.n hn.1 hn.2)
      omega
    · split
      · rename_i h0 h1 h2
        simp [V.may, may, h2] at h
        simp only [Cd.tx, List.length_append, sb_len]
        have := Cd.vi_len10 v.s.size (by omega)
        omega
      · simp
theorem ones_len (r : List V) (h : r.all V.may = true) (hn : ∀ v ∈ r, N64 v) : (ones r).length ≤ 74 * r.length := by
  induction r with
  | nil => simp [ones]
  | cons v r ih =>
    simp only [List.all_cons, Bool.and_eq_true] at h
    have h1 := one_len v h.1 (hn v (by simp))
    have h2 := ih h.2 (fun u hu => hn u (by simp [hu]))
    simp [ones]
    omega
theorem ones_lt (r : List V) (h : r.all V.may = true) : ∀ x ∈ ones r, x < 256 := by
  induction r with
  | nil => simp [ones]
  | cons v r ih =>
    simp only [List.all_cons, Bool.and_eq_true] at h
    intro x hx
    simp only [ones, List.mem_append] at hx
    rcases hx with hx | hx
    · exact one_lt v h.1 x hx
    · exact ih h.2 x hx
theorem txt_lt (r : List V) (h : r.all V.may = true) : ∀ x ∈ txt r, x < 256 := by
  intro x hx
  simp only [txt, List.mem_append] at hx
  rcases hx with hx | hx
  · exact mk_lt _ _ x hx
  · exact ones_lt r h x hx

/-! ### Which row a text is -/
def v0 : V := ⟨0, 0, ⟨#[]⟩⟩
def rdV (k : Int) (l : List Nat) : Option (V × List Nat) :=
  if k = 0 then some (v0, l)
  else if k = 1 then (match Cd.front l with | some (x, n) => some (⟨1, Cd.unzz x, ⟨#[]⟩⟩, l.drop n) | none => none)
  else if k = 2 then (match Cd.text l 64 with | some (t, n) => some (⟨2, 0, bs t⟩, l.drop n) | none => none)
  else (match l with | x :: r => if x ≤ 1 then some (⟨3, (x : Int), ⟨#[]⟩⟩, r) else none | [] => none)
def rdC (m : List Nat) : Nat → List C → List Nat → Option (List V × List Nat)
  | _, [], l => some ([], l)
  | i, c :: cs, l => match rdV (if bitAt m i then 0 else c.k) l with
    | some (v, r) => (rdC m (i + 1) cs r).map fun z => (v :: z.1, z.2)
    | none => none
def beyond (m : List Nat) (n : Nat) : Bool := (List.range (8 * m.length)).any fun i => decide (n ≤ i) && bitAt m i
def decR (cs : List C) (l : List Nat) : Option (List V) :=
  match rdC (l.take (mB cs.length)) 0 cs (l.drop (mB cs.length)) with
  | some (vs, []) => if fitsE cs vs = 0 then some vs else none
  | _ => none
def decO (cs : List C) (s : ByteArray) : Option (List V) :=
  if 160 < s.size then none else if s.size < mB cs.length then none else if beyond ((sb s).take (mB cs.length)) cs.length then none else decR cs (sb s)

theorem rdV_one (v : V) (hm : v.may = true) (hn : N64 v) (r : List Nat) : rdV v.k (one v ++ r) = some (v, r) := by
  obtain ⟨k, n, s⟩ := v
  obtain ⟨h1, h2⟩ := hn
  simp only at h1 h2 ⊢
  replace hm : may k n s = true := hm
  have hk := may_kind hm
  have hk4 : k = 0 ∨ k = 1 ∨ k = 2 ∨ k = 3 := by omega
  rcases hk4 with rfl | rfl | rfl | rfl
  · simp [may, seq_eq] at hm
    obtain ⟨rfl, rfl⟩ := hm
    simp [rdV, one, v0]
  · simp [may, seq_eq] at hm
    subst hm
    simp [rdV, one, Cd.front_vi _ (Cd.zz_lt n h1 h2), Cd.unzz_zz]
  · simp [may] at hm
    obtain ⟨rfl, hs⟩ := hm
    have ht := Cd.text_tx (sb s) 64 (by rw [sb_len]; omega) (by rw [sb_len]; omega) r
    simp [rdV, one, ht, bs_sb]
  · simp [may, seq_eq] at hm
    obtain ⟨rfl, hb⟩ := hm
    have hn : n = ((n.toNat : Nat) : Int) := by omega
    have hle : n ≤ 1 := by omega
    simp [rdV, one, hle]
    omega
theorem one_rdV {k : Int} {l r : List Nat} {v : V} (hk : 0 ≤ k ∧ k ≤ 3) (hl : ∀ x ∈ l, x < 256) (h : rdV k l = some (v, r)) : l = one v ++ r ∧ v.may = true ∧ N64 v ∧ v.k = k := by
  have hk4 : k = 0 ∨ k = 1 ∨ k = 2 ∨ k = 3 := by omega
  rcases hk4 with rfl | rfl | rfl | rfl
  · simp [rdV] at h
    obtain ⟨rfl, rfl⟩ := h
    exact ⟨rfl, by simp [V.may, may, v0, seq_refl], by simp [N64, v0], rfl⟩
  · simp only [rdV, show ¬ (1 : Int) = 0 by omega, if_false, if_true] at h
    cases hf : Cd.front l with
    | none => rw [hf] at h; cases h
    | some z =>
      obtain ⟨x, n⟩ := z
      rw [hf] at h
      simp only [Option.some.injEq, Prod.mk.injEq] at h
      obtain ⟨rfl, rfl⟩ := h
      have h1 := Cd.front_one hl hf
      have hb := Cd.unzz_bd x (Cd.front_lt hf)
      refine ⟨?_, by simp [V.may, may, seq_refl], hb, rfl⟩
      simp [one, Cd.zz_unzz, h1]
  · simp only [rdV, show ¬ (2 : Int) = 0 by omega, show ¬ (2 : Int) = 1 by omega, if_false, if_true] at h
    cases hf : Cd.text l 64 with
    | none => rw [hf] at h; cases h
    | some z =>
      obtain ⟨t, n⟩ := z
      rw [hf] at h
      simp only [Option.some.injEq, Prod.mk.injEq] at h
      obtain ⟨rfl, rfl⟩ := h
      obtain ⟨h1, h2, h3⟩ := Cd.text_one hl hf
      have ht : ∀ x ∈ t, x < 256 := by
        intro x hx
        refine hl x (List.mem_of_mem_take (i := n) ?_)
        rw [← h1]
        simp [Cd.tx, hx]
      refine ⟨?_, ?_, by simp [N64], rfl⟩
      · simp [one, sb_bs t ht, h1]
      · simp [V.may, may, bs_size]
        omega
  · simp only [rdV, show ¬ (3 : Int) = 0 by omega, show ¬ (3 : Int) = 1 by omega, show ¬ (3 : Int) = 2 by omega, if_false] at h
    cases l with
    | nil => simp at h
    | cons x l =>
      simp only at h
      by_cases hx : x ≤ 1
      · rw [if_pos hx] at h
        simp only [Option.some.injEq, Prod.mk.injEq] at h
        obtain ⟨rfl, rfl⟩ := h
        refine ⟨by simp [one], ?_, ?_, rfl⟩
        · simp [V.may, may, seq_refl]; omega
        · simp [N64]; omega
      · rw [if_neg hx] at h
        cases h
theorem rdC_fits (m : List Nat) (cs : List C) (vs : List V) (i : Nat) (hl : vs.length = cs.length) (hf : fits2 cs vs = 0) (hn : ∀ v ∈ vs, N64 v) (hb : ∀ j v, vs[j]? = some v → bitAt m (i + j) = (v.k == 0)) (r : List Nat) :
    rdC m i cs (ones vs ++ r) = some (vs, r) := by
  induction cs generalizing vs i with
  | nil =>
    cases vs with
    | nil => rfl
    | cons v vs => simp at hl
  | cons c cs ih =>
    cases vs with
    | nil => simp at hl
    | cons v vs =>
      simp only [fits2] at hf
      by_cases h0 : fit1 c v = 0
      · rw [if_pos h0] at hf
        obtain ⟨hm, hk⟩ := fit1_kind h0
        have hb0 := hb 0 v rfl
        have hk2 : (if bitAt m i = true then 0 else c.k) = v.k := by
          rw [Nat.add_zero] at hb0
          rw [hb0]
          by_cases hz : v.k = 0
          · simp [hz]
          · simp [hz]
            omega
        simp only [rdC]
        rw [hk2]
        simp only [ones, List.append_assoc]
        rw [rdV_one v hm (hn v (by simp))]
        simp only
        rw [ih vs (i + 1) (by simpa using hl) hf (fun u hu => hn u (by simp [hu])) (fun j u hu => by have := hb (j + 1) u (by simpa using hu); rw [← this]; congr 1; omega)]
        rfl
      · rw [if_neg h0] at hf
        contradiction
theorem rdC_inv (m : List Nat) (cs : List C) (l : List Nat) (i : Nat) (vs : List V) (r : List Nat) (hl : ∀ x ∈ l, x < 256) (hc : ∀ c ∈ cs, c.k = 1 ∨ c.k = 2 ∨ c.k = 3) (h : rdC m i cs l = some (vs, r)) :
    l = ones vs ++ r ∧ vs.length = cs.length ∧ (∀ v ∈ vs, v.may = true ∧ N64 v) ∧ ∀ j v, vs[j]? = some v → bitAt m (i + j) = (v.k == 0) := by
  induction cs generalizing l i vs with
  | nil =>
    simp [rdC] at h
    obtain ⟨rfl, rfl⟩ := h
    simp [ones]
  | cons c cs ih =>
    simp only [rdC] at h
    have hck := hc c (by simp)
    cases hv : rdV (if bitAt m i = true then 0 else c.k) l with
    | none => rw [hv] at h; cases h
    | some z =>
      obtain ⟨v, q⟩ := z
      rw [hv] at h
      simp only at h
      obtain ⟨e, hm, hn, hk⟩ := one_rdV (by split <;> omega) hl hv
      cases hr : rdC m (i + 1) cs q with
      | none => rw [hr] at h; cases h
      | some z =>
        obtain ⟨us, q2⟩ := z
        rw [hr] at h
        simp only [Option.map_some, Option.some.injEq, Prod.mk.injEq] at h
        obtain ⟨rfl, rfl⟩ := h
        obtain ⟨e2, hl2, hm2, hb2⟩ := ih q (i + 1) us (fun x hx => hl x (by rw [e]; simp [hx])) (fun d hd => hc d (by simp [hd])) hr
        refine ⟨?_, by simp [hl2], ?_, ?_⟩
        · rw [e, e2]; simp [ones]
        · intro u hu
          simp only [List.mem_cons] at hu
          rcases hu with rfl | hu
          · exact ⟨hm, hn⟩
          · exact hm2 u hu
        · intro j u hu
          cases j with
          | zero =>
            simp at hu
            subst hu
            rw [Nat.add_zero, hk]
            cases bitAt m i with
            | true => rfl
            | false => simp; omega
          | succ j =>
            simp at hu
            rw [show i + (j + 1) = i + 1 + j by omega]
            exact hb2 j u hu
theorem beyond_iff (m : List Nat) (n : Nat) : beyond m n = true ↔ ∃ i, n ≤ i ∧ i < 8 * m.length ∧ bitAt m i = true := by
  simp only [beyond, List.any_eq_true, List.mem_range, Bool.and_eq_true, decide_eq_true_eq]
  constructor
  · rintro ⟨i, h1, h2, h3⟩; exact ⟨i, h2, h1, h3⟩
  · rintro ⟨i, h1, h2, h3⟩; exact ⟨i, h2, h1, h3⟩
theorem marks_len (vs : List V) : (marks vs).length = mB vs.length := mk_len vs _
theorem marks_bit (vs : List V) (i : Nat) : bitAt (marks vs) i = nullAt vs i := by
  rw [marks, mk_bit vs _ (Nat.le_refl _)]
  by_cases h : i < vs.length
  · simp [h]
  · simp [h, nullAt]
theorem nullAt_get {vs : List V} {i : Nat} {v : V} (h : vs[i]? = some v) : nullAt vs i = (v.k == 0) := by simp [nullAt, h]
theorem enc_parts {cs : List C} {vs : List V} (h : encE cs vs = 0) : fitsE cs vs = 0 ∧ (txt vs).length ≤ 160 ∧ encS cs vs = bs (txt vs) := by
  have hs : encS cs vs = bs (txt vs) := if_pos h
  unfold encE at h
  by_cases h1 : fitsE cs vs = 0
  · rw [if_neg (by omega)] at h
    by_cases h2 : 160 < (txt vs).length
    · rw [if_pos h2] at h; omega
    · exact ⟨h1, by omega, hs⟩
  · rw [if_pos h1] at h; contradiction
theorem enc_good {cs : List C} {vs : List V} (h1 : fitsE cs vs = 0) (h2 : (txt vs).length ≤ 160) : encE cs vs = 0 ∧ encS cs vs = bs (txt vs) := by
  have e : encE cs vs = 0 := by
    unfold encE
    rw [if_neg (by omega), if_neg (by omega)]
  exact ⟨e, if_pos e⟩
theorem enc_unfit {cs : List C} {vs : List V} (h : fitsE cs vs ≠ 0) : encE cs vs = fitsE cs vs ∧ encS cs vs = ⟨#[]⟩ := by
  have e : encE cs vs = fitsE cs vs := if_pos h
  exact ⟨e, if_neg (by rw [e]; exact h)⟩
theorem enc_wide {cs : List C} {vs : List V} (h1 : fitsE cs vs = 0) (h2 : 160 < (txt vs).length) : encE cs vs = 51 ∧ encS cs vs = ⟨#[]⟩ := by
  have e : encE cs vs = 51 := by
    unfold encE
    rw [if_neg (by omega), if_pos h2]
  exact ⟨e, if_neg (by rw [e]; omega)⟩
/-- there and back -/
theorem dec_enc {cs : List C} {vs : List V} (h : encE cs vs = 0) (hn : ∀ v ∈ vs, N64 v) : decO cs (encS cs vs) = some vs := by
  obtain ⟨h1, h2, h3⟩ := enc_parts h
  obtain ⟨hc, hl, hf⟩ := fitsE_zero h1
  have hm := fits2_may hl hf
  rw [h3]
  unfold decO decR
  rw [sb_bs _ (txt_lt vs hm), bs_size]
  have hml := marks_len vs
  rw [hl] at hml
  have ht : (txt vs).take (mB cs.length) = marks vs := by
    unfold txt
    rw [← hml, List.take_left]
  have hd : (txt vs).drop (mB cs.length) = ones vs := by
    unfold txt
    rw [← hml, List.drop_left]
  rw [if_neg (by omega), if_neg (by unfold txt; rw [List.length_append, hml]; omega), ht, hd]
  have hb : beyond (marks vs) cs.length = false := by
    rw [Bool.eq_false_iff]
    intro e
    obtain ⟨i, hi1, hi2, hi3⟩ := (beyond_iff _ _).1 e
    rw [marks_bit] at hi3
    simp [nullAt, List.getElem?_eq_none (by omega : vs.length ≤ i)] at hi3
  rw [if_neg (by rw [hb]; simp)]
  have hr := rdC_fits (marks vs) cs vs 0 hl hf hn (fun j v hv => by rw [Nat.zero_add, marks_bit]; exact nullAt_get hv) []
  rw [List.append_nil] at hr
  rw [hr]
  simp [h1]
theorem bits_ext {a b : List Nat} (hl : a.length = b.length) (ha : ∀ x ∈ a, x < 256) (hb : ∀ x ∈ b, x < 256) (h : ∀ i, i < 8 * a.length → bitAt a i = bitAt b i) : a = b := by
  apply List.ext_getElem hl
  intro k h1 h2
  apply Nat.eq_of_testBit_eq
  intro i
  by_cases h8 : i < 8
  · have := h (8 * k + i) (by omega)
    unfold bitAt at this
    rw [show (8 * k + i) / 8 = k by omega, show (8 * k + i) % 8 = i by omega] at this
    simpa [List.getD_eq_getElem?_getD, List.getElem?_eq_getElem h1, List.getElem?_eq_getElem h2] using this
  · have e1 : a[k] < 2 ^ i := Nat.lt_of_lt_of_le (ha _ (List.getElem_mem h1)) (Nat.pow_le_pow_right (n := 2) (i := 8) (by omega) (by omega))
    have e2 : b[k] < 2 ^ i := Nat.lt_of_lt_of_le (hb _ (List.getElem_mem h2)) (Nat.pow_le_pow_right (n := 2) (i := 8) (by omega) (by omega))
    rw [Nat.testBit_lt_two_pow e1, Nat.testBit_lt_two_pow e2]
/-- the other way round -/
theorem enc_dec {cs : List C} {s : ByteArray} {vs : List V} (hc : mayC cs = true) (h : decO cs s = some vs) : encE cs vs = 0 ∧ encS cs vs = s ∧ ∀ v ∈ vs, v.may = true ∧ N64 v := by
  unfold decO at h
  split at h
  · cases h
  · rename_i h160
    split at h
    · cases h
    · rename_i hmb
      split at h
      · cases h
      · rename_i hbe
        unfold decR at h
        cases hr : rdC ((sb s).take (mB cs.length)) 0 cs ((sb s).drop (mB cs.length)) with
        | none => rw [hr] at h; cases h
        | some z =>
          obtain ⟨us, q⟩ := z
          rw [hr] at h
          cases q with
          | cons x q => cases h
          | nil =>
            simp only at h
            split at h
            · rename_i hf
              injection h with h
              subst h
              obtain ⟨e, hl, hm, hb⟩ := rdC_inv _ cs _ 0 us [] (fun x hx => sb_lt s x (List.mem_of_mem_drop hx)) (fun c hcc => kind_of hc hcc) hr
              rw [List.append_nil] at e
              have hlen : ((sb s).take (mB cs.length)).length = mB cs.length := by simp [sb_len]; omega
              have hmk : marks us = (sb s).take (mB cs.length) := by
                apply bits_ext
                · rw [marks_len, hl, hlen]
                · exact mk_lt _ _
                · exact fun x hx => sb_lt s x (List.mem_of_mem_take hx)
                · intro i hi
                  rw [marks_len, hl] at hi
                  rw [marks_bit]
                  by_cases hin : i < us.length
                  · have hv : us[i]? = some us[i] := List.getElem?_eq_getElem hin
                    rw [nullAt_get hv, ← hb i _ hv, Nat.zero_add]
                  · rw [show nullAt us i = false by simp [nullAt, List.getElem?_eq_none (Nat.le_of_not_lt hin)]]
                    symm
                    rw [Bool.eq_false_iff]
                    intro hbt
                    exact hbe ((beyond_iff _ _).2 ⟨i, by omega, by rw [hlen]; exact hi, hbt⟩)
              have ht : txt us = sb s := by
                unfold txt
                rw [hmk, ← e, List.take_append_drop]
              have htl : (txt us).length ≤ 160 := by rw [ht, sb_len]; omega
              obtain ⟨e1, e2⟩ := enc_good hf htl
              exact ⟨e1, by rw [e2, ht, bs_sb], hm⟩
            · cases h
end Go.Proofs.Ytiilhnedflmgoaa
