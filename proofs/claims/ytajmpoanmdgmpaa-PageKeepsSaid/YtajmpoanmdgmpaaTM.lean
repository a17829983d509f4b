/-
  THE MATHEMATICS OF OPERATIONS: the page may be behind one.
-/
import Derived.Test.YtajmpoanmdgmpaaSN
namespace Go.Proofs.Ytajmpoanmdgmpaa

theorem may_iff {k : Int} {es : List CE} : may k es = true ↔ es.length ≤ 60 ∧ es.all cmay = true ∧ psz es ≤ 512 ∧ stand k es = true := by
  unfold may
  simp only [Bool.and_eq_true, decide_eq_true_eq]
theorem full_no {es : List CE} (h : full es = false) : es.length ≤ 60 ∧ psz es ≤ 512 := by
  unfold full at h
  simp only [Bool.or_eq_false_iff, decide_eq_false_iff_not] at h
  omega
theorem getD_set {es : List CE} {i j : Nat} {c : CE} (hi : i < es.length) : (es.set i c).getD j cz = if i = j then c else es.getD j cz := by
  simp only [List.getD, List.getElem?_set]
  by_cases h : i = j
  · subst h; simp [hi]
  · simp [h]
theorem cmay_data {d : List Nat} {k : Nat} (h1 : 1 ≤ d.length) (h2 : d.length ≤ 180) : cmay ⟨true, k, d⟩ = true := by
  unfold cmay
  simp [h1, h2]
theorem cmay_kill {c : CE} (h : cmay c = true) (hu : c.u = true) (t : Nat) : cmay ⟨c.u, t, c.d⟩ = true := by
  unfold cmay at h ⊢
  simp only [hu, if_true] at h ⊢
  exact h
theorem csz_kill (c : CE) (t : Nat) : csz ⟨c.u, t, c.d⟩ = csz c := rfl
theorem all_set {es : List CE} {i : Nat} {c : CE} (h : es.all cmay = true) (hc : cmay c = true) : (es.set i c).all cmay = true := by
  rw [List.all_eq_true] at h ⊢
  intro x hx
  rcases List.mem_or_eq_of_mem_set hx with hx | rfl
  · exact h x hx
  · exact hc
theorem psz_set {es : List CE} {i : Nat} {c : CE} (hi : i < es.length) : psz (es.set i c) + csz (es.getD i cz) = psz es + csz c := by
  rw [getD_lt hi]
  have h1 : es = es.take i ++ es[i] :: es.drop (i + 1) := by rw [← List.drop_eq_getElem_cons hi, List.take_append_drop]
  have h2 : es.set i c = es.take i ++ c :: es.drop (i + 1) := by rw [List.set_eq_take_append_cons_drop, if_pos hi]
  rw [h2]
  conv => rhs; rw [h1]
  unfold psz
  simp only [List.map_append, List.map_cons, List.sum_append, List.sum_cons]
  omega
theorem okAt_set {e : Nat} {es : List CE} {i : Nat} {c : CE} (hi : i < es.length) (hu : c.u = (es.getD i cz).u) (hd : c.d = (es.getD i cz).d) (j : Nat) : okAt e (es.set i c) j = okAt e es j := by
  unfold okAt
  have h1 : ((es.set i c).getD j cz).u = (es.getD j cz).u := by
    rw [getD_set hi]; split
    · rename_i h; rw [hu, h]
    · rfl
  have h2 : ∀ q, ((es.set i c).getD q cz).d = (es.getD q cz).d := fun q => by
    rw [getD_set hi]; split
    · rename_i h; rw [hd, h]
    · rfl
  rw [h1, h2, h2]
theorem rise_set {e : Nat} {es : List CE} {i : Nat} {c : CE} (hi : i < es.length) (hu : c.u = (es.getD i cz).u) (hd : c.d = (es.getD i cz).d) : rise e (es.set i c) = rise e es := by
  unfold rise
  rw [List.length_set]
  congr 1
  funext j
  exact okAt_set hi hu hd j
theorem lastU_iff {es : List CE} : lastU es = true ↔ es.length = 0 ∨ (es.getD (es.length - 1) cz).u = true := by
  unfold lastU
  simp
/-- a Killer is set or taken away -/
theorem may_kill {k : Int} {es : List CE} (hk : k = 1 ∨ k = 2) (h : may k es = true) {i : Nat} (hi : i < es.length) (hu : (es.getD i cz).u = true) (t : Nat) : may k (es.set i ⟨(es.getD i cz).u, t, (es.getD i cz).d⟩) = true := by
  rw [may_iff] at h ⊢
  obtain ⟨h1, h2, h3, h4⟩ := h
  have hc : cmay (es.getD i cz) = true := by rw [getD_lt hi]; exact List.all_eq_true.1 h2 _ (List.getElem_mem hi)
  refine ⟨by rw [List.length_set]; exact h1, all_set h2 (cmay_kill hc hu t), ?_, ?_⟩
  · have := psz_set (c := ⟨(es.getD i cz).u, t, (es.getD i cz).d⟩) hi
    rw [csz_kill (es.getD i cz) t] at this
    omega
  · unfold stand at h4 ⊢
    rcases hk with rfl | rfl
    · rw [if_pos rfl] at h4 ⊢
      rw [lastU_iff] at h4 ⊢
      rw [List.length_set]
      rcases h4 with h4 | h4
      · exact Or.inl h4
      · right
        rw [getD_set hi]
        split
        · exact hu
        · exact h4
    · rw [if_neg (by decide), if_neg (by decide), if_pos rfl] at h4 ⊢
      rw [rise_set (c := ⟨(es.getD i cz).u, t, (es.getD i cz).d⟩) hi rfl rfl]
      exact h4
/-- a heap's cell is filled -/
theorem may_fill {es : List CE} (h : may 1 es = true) {i : Nat} (hi : i < es.length) {d : List Nat} (h1 : 1 ≤ d.length) (h2 : d.length ≤ 180) (hf : full (es.set i ⟨true, 0, d⟩) = false) : may 1 (es.set i ⟨true, 0, d⟩) = true := by
  rw [may_iff] at h ⊢
  obtain ⟨g1, g2⟩ := full_no hf
  refine ⟨g1, all_set h.2.1 (cmay_data h1 h2), g2, ?_⟩
  have h4 := h.2.2.2
  unfold stand at h4 ⊢
  rw [if_pos rfl] at h4 ⊢
  rw [lastU_iff] at h4 ⊢
  rw [List.length_set]
  rcases h4 with h4 | h4
  · exact Or.inl h4
  · right
    rw [getD_set hi]
    split
    · rfl
    · exact h4
theorem all_ins {es : List CE} {i : Nat} {c : CE} (h : es.all cmay = true) (hc : cmay c = true) : (es.take i ++ c :: es.drop i).all cmay = true := by
  rw [List.all_eq_true] at h ⊢
  intro x hx
  rcases List.mem_append.1 hx with hx | hx
  · exact h x (List.mem_of_mem_take hx)
  · rcases List.mem_cons.1 hx with rfl | hx
    · exact hc
    · exact h x (List.mem_of_mem_drop hx)
theorem getD_ins {es : List CE} {i j : Nat} {c : CE} (hi : i ≤ es.length) : (es.take i ++ c :: es.drop i).getD j cz = if j < i then es.getD j cz else if j = i then c else es.getD (j - 1) cz := by
  have hl : (es.take i).length = i := by rw [List.length_take]; omega
  simp only [List.getD, List.getElem?_append, hl]
  by_cases h1 : j < i
  · rw [if_pos h1, if_pos h1, List.getElem?_take_of_lt h1]
  · rw [if_neg h1, if_neg h1]
    by_cases h2 : j = i
    · subst h2; simp
    · rw [if_neg h2]
      obtain ⟨q, hq⟩ : ∃ q, j - i = q + 1 := ⟨j - i - 1, by omega⟩
      rw [hq, List.getElem?_cons_succ, List.getElem?_drop]
      congr 2
      omega
theorem len_ins {es : List CE} {i : Nat} {c : CE} (hi : i ≤ es.length) : (es.take i ++ c :: es.drop i).length = es.length + 1 := by
  simp
  omega
/-- a heap's cell is added -/
theorem may_add {es : List CE} (h : may 1 es = true) {d : List Nat} (h1 : 1 ≤ d.length) (h2 : d.length ≤ 180) (hf : full (es.take es.length ++ ⟨true, 0, d⟩ :: es.drop es.length) = false) : may 1 (es.take es.length ++ ⟨true, 0, d⟩ :: es.drop es.length) = true := by
  rw [may_iff] at h ⊢
  obtain ⟨g1, g2⟩ := full_no hf
  refine ⟨g1, all_ins h.2.1 (cmay_data h1 h2), g2, ?_⟩
  unfold stand
  rw [if_pos rfl, lastU_iff]
  right
  rw [len_ins (Nat.le_refl _), getD_ins (Nat.le_refl _)]
  simp
theorem ltb_tri {a b : List Nat} (h1 : ltb a b = false) (h2 : seq a b = false) : ltb b a = true := by
  unfold ltb at h1 ⊢
  unfold seq at h2
  generalize u8l a = x at h1 h2
  generalize u8l b = y at h1 h2
  induction x generalizing y with
  | nil =>
    cases y with
    | nil => simp at h2
    | cons c y => simp [Op.bytesLess] at h1
  | cons c x ih =>
    cases y with
    | nil => simp [Op.bytesLess]
    | cons e y =>
      unfold Op.bytesLess at h1 ⊢
      simp only [Bool.or_eq_false_iff, Bool.and_eq_false_iff, decide_eq_false_iff_not, beq_eq_false_iff_ne] at h1
      simp only [Bool.or_eq_true, Bool.and_eq_true, decide_eq_true_eq, beq_iff_eq]
      by_cases hce : c = e
      · subst hce
        right
        refine ⟨rfl, ih y ?_ ?_⟩
        · rcases h1.2 with h | h
          · exact absurd rfl h
          · exact h
        · simpa using h2
      · left
        have h3 := UInt8.not_lt.1 h1.1
        exact UInt8.lt_of_le_of_ne h3 fun e' => hce e'.symm
/-- a leaf's entry is put where it belongs -/
theorem rise_ins {es : List CE} (h : rise 0 es = true) {d : List Nat} (hn : isThere es d = false) : rise 0 (es.take (lbd es d) ++ ⟨true, 0, d⟩ :: es.drop (lbd es d)) = true := by
  have hle := lbd_le es d
  have hat : lbd es d < es.length → ltb d (es.getD (lbd es d) cz).d = true := fun hlt => by
    have h1 := lbd_at hlt
    have h2 : seq (es.getD (lbd es d) cz).d d = false := by
      unfold isThere at hn
      rw [decide_eq_true hlt, Bool.true_and] at hn
      exact hn
    exact ltb_tri h1 h2
  have hbelow : ∀ k, k < lbd es d → ltb (es.getD k cz).d d = true := fun k hk => lbd_below hk
  generalize lbd es d = i at hle hat hbelow ⊢
  unfold rise
  rw [all_rng, len_ins hle]
  intro j hj
  unfold okAt
  simp only [ent_zero, Bool.and_eq_true, Bool.or_eq_true, beq_iff_eq]
  rw [getD_ins hle, getD_ins hle]
  rcases Nat.lt_trichotomy j i with hlt | heq | hgt
  · rw [if_pos hlt, if_pos (show j - 1 < i by omega)]
    have h1 := rise_at h (show j < es.length by omega)
    exact ⟨h1.1, by by_cases h0 : j = 0; exact Or.inl h0; exact Or.inr (h1.2 (by omega))⟩
  · rw [if_neg (show ¬ j < i by omega), if_pos heq]
    refine ⟨rfl, ?_⟩
    by_cases h0 : j = 0
    · exact Or.inl h0
    · right
      rw [if_pos (show j - 1 < i by omega)]
      exact hbelow _ (by omega)
  · rw [if_neg (show ¬ j < i by omega), if_neg (show ¬ j = i by omega)]
    have h1 := rise_at h (show j - 1 < es.length by omega)
    refine ⟨h1.1, Or.inr ?_⟩
    rw [if_neg (show ¬ j - 1 < i by omega)]
    by_cases h2 : j - 1 = i
    · rw [if_pos h2, h2]
      exact hat (by omega)
    · rw [if_neg h2]
      exact h1.2 (by omega)
theorem may_ins {es : List CE} (h : may 2 es = true) {d : List Nat} (h1 : 1 ≤ d.length) (h2 : d.length ≤ 180) (hn : isThere es d = false) (hf : full (es.take (lbd es d) ++ ⟨true, 0, d⟩ :: es.drop (lbd es d)) = false) :
    may 2 (es.take (lbd es d) ++ ⟨true, 0, d⟩ :: es.drop (lbd es d)) = true := by
  have hr := may_rise h rfl
  rw [may_iff] at h ⊢
  obtain ⟨g1, g2⟩ := full_no hf
  refine ⟨g1, all_ins h.2.1 (cmay_data h1 h2), g2, ?_⟩
  unfold stand
  rw [if_neg (by decide), if_neg (by decide), if_pos rfl]
  exact rise_ins hr hn
theorem trimN_congr {a b : List CE} : ∀ k, (∀ j, j < k → (a.getD j cz).u = (b.getD j cz).u) → trimN a k = trimN b k
  | 0, _ => rfl
  | k + 1, h => by
    rw [trimN_succ, trimN_succ, h k (by omega), trimN_congr k fun j hj => h j (by omega)]
theorem trim_last {es : List CE} (h : lastU es = true) : trim es = es := by
  rw [lastU_iff] at h
  unfold trim
  cases hn : es.length with
  | zero => rw [List.eq_nil_of_length_eq_zero hn]; rfl
  | succ n =>
    rw [hn] at h
    rw [trimN_succ]
    rcases h with h | h
    · omega
    · rw [show n + 1 - 1 = n by omega] at h
      rw [h, if_pos rfl, List.take_of_length_le (by omega)]
theorem trim_snoc {es : List CE} {c : CE} (hc : c.u = false) : trim (es ++ [c]) = trim es := by
  unfold trim
  rw [List.length_append, List.length_singleton, trimN_succ]
  have h1 : (es ++ [c]).getD es.length cz = c := by simp [List.getD]
  rw [h1, hc, if_neg (by simp)]
  have h2 : trimN (es ++ [c]) es.length = trimN es es.length := trimN_congr _ fun j hj => by
    simp only [List.getD, List.getElem?_append_left hj]
  rw [h2, List.take_append_of_le_length (trimN_le _ _)]
theorem cmay_unused {c : CE} (h : cmay c = true) (hu : c.u = false) : c = cz := by
  obtain ⟨u, k, d⟩ := c
  simp only at hu
  subst hu
  unfold cmay at h
  simp at h
  obtain ⟨h1, h2⟩ := h
  subst h1 h2
  rfl
theorem lbd_map (es : List CE) (d : List Nat) : lbd es d = (es.map CE.d).findIdx fun x => !ltb x d := by
  unfold lbd
  rw [List.findIdx_map]
  rfl
theorem map_d_set {es : List CE} {i : Nat} (hi : i < es.length) (t : Nat) : (es.set i ⟨(es.getD i cz).u, t, (es.getD i cz).d⟩).map CE.d = es.map CE.d := by
  rw [List.map_set]
  simp only
  rw [getD_lt hi]
  refine List.ext_getElem? fun j => ?_
  rw [List.getElem?_set]
  split
  · rename_i h
    subst h
    simp [hi]
  · rfl
theorem getD_d {es : List CE} {i : Nat} : (es.getD i cz).d = (es.map CE.d).getD i [] := by
  simp only [List.getD, List.getElem?_map]
  cases es[i]? <;> rfl
theorem place_kill {k : Int} {es : List CE} {i : Nat} (hi : i < es.length) (t : Nat) (os : Int) (od : List Nat) : place k (es.set i ⟨(es.getD i cz).u, t, (es.getD i cz).d⟩) os od = place k es os od := by
  unfold place
  split
  · rw [List.length_set, getD_set hi]
    congr 2
    split
    · rename_i h; rw [h]
    · rfl
  · unfold isThere
    rw [lbd_map, lbd_map, map_d_set hi, List.length_set, getD_d, map_d_set hi, getD_d]
theorem lbd_ins (es : List CE) (d : List Nat) : lbd (es.take (lbd es d) ++ ⟨true, 0, d⟩ :: es.drop (lbd es d)) d = lbd es d := by
  have hle := lbd_le es d
  have h1 : lbd es d < (es.take (lbd es d) ++ (⟨true, 0, d⟩ : CE) :: es.drop (lbd es d)).length := by rw [len_ins hle]; omega
  conv => lhs; unfold lbd
  refine (List.findIdx_eq h1).2 ⟨?_, fun j hj => ?_⟩
  · have := getD_lt h1
    rw [← this, getD_ins hle, if_neg (by omega), if_pos rfl]
    simp [ltb_irr]
  · have := getD_lt (show j < (es.take (lbd es d) ++ (⟨true, 0, d⟩ : CE) :: es.drop (lbd es d)).length by omega)
    rw [← this, getD_ins hle, if_pos hj, lbd_below hj]
    rfl
theorem drop_ins {es : List CE} {i : Nat} {c : CE} (hi : i ≤ es.length) : (es.take i ++ c :: es.drop i).take i ++ (es.take i ++ c :: es.drop i).drop (i + 1) = es := by
  have hl : (es.take i).length = i := by rw [List.length_take]; omega
  rw [List.take_left' hl, List.drop_append, List.drop_of_length_le (by omega), List.nil_append, hl, show i + 1 - i = 1 by omega]
  simp
end Go.Proofs.Ytajmpoanmdgmpaa
