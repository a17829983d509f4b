/-
  THE MATHEMATICS OF OPERATIONS, at, room_put; THE DOCUMENT's At, put, Do; Do WITH WHAT MAY BE WRITTEN OVER; ROWS OF OPERATIONS.
-/
import Derived.Test.YtajmpoanmdgmpaaSN
import Derived.Test.YtajmpoanmdgmpaaPS
import Derived.Test.YtajmpoanmdgmpaaPG
import Derived.Test.YtajmpoanmdgmpaaPR
import Derived.Deep.QuietTactic
import Derived.BigQuiet
import Derived.Test.YtajmpoanmdgmpaaPH
import Derived.Test.YtajmpoanmdgmpaaPZ
import Derived.Test.YtajmpoanmdgmpaaOpenB
/-
  THE MATHEMATICS OF OPERATIONS: the page may be behind one.
-/
namespace Go.Proofs.Ytajmpoanmdgmpaa

theorem may_iff {k : Int} {es : List CE} : may k es = true ↔ es.length ≤ 60 ∧ es.all cmay = true ∧ psz es ≤ 512 ∧ stand k es = true := by
  unfold may
  simp only [Bool.and_eq_true, decide_eq_true_eq]
theorem full_no {es : List CE} (h : full es = false) : es.length ≤ 60 ∧ psz es ≤ 512 := by
  unfold full at h
  simp only [Bool.or_eq_false_iff, decide_eq_false_iff_not] at h
  omega
theorem getD_set {es : List CE} {i j : Nat} {c : CE} (hi : i < es.length) : (es.set i c).getD j cz = if i = j then c else es.getD j cz := by
  simp only [List.getD, List.getElem?_set]
  by_cases h : i = j
  · subst h; simp [hi]
  · simp [h]
theorem cmay_data {d : List Nat} {k : Nat} (h1 : 1 ≤ d.length) (h2 : d.length ≤ 180) : cmay ⟨true, k, d⟩ = true := by
  unfold cmay
  simp [h1, h2]
theorem cmay_kill {c : CE} (h : cmay c = true) (hu : c.u = true) (t : Nat) : cmay ⟨c.u, t, c.d⟩ = true := by
  unfold cmay at h ⊢
  simp only [hu, if_true] at h ⊢
  exact h
theorem csz_kill (c : CE) (t : Nat) : csz ⟨c.u, t, c.d⟩ = csz c := rfl
theorem all_set {es : List CE} {i : Nat} {c : CE} (h : es.all cmay = true) (hc : cmay c = true) : (es.set i c).all cmay = true := by
  rw [List.all_eq_true] at h ⊢
  intro x hx
  rcases List.mem_or_eq_of_mem_set hx with hx | rfl
  · exact h x hx
  · exact hc
theorem psz_set {es : List CE} {i : Nat} {c : CE} (hi : i < es.length) : psz (es.set i c) + csz (es.getD i cz) = psz es + csz c := by
  rw [getD_lt hi]
  have h1 : es = es.take i ++ es[i] :: es.drop (i + 1) := by rw [← List.drop_eq_getElem_cons hi, List.take_append_drop]
  have h2 : es.set i c = es.take i ++ c :: es.drop (i + 1) := by rw [List.set_eq_take_append_cons_drop, if_pos hi]
  rw [h2]
  conv => rhs; rw [h1]
  unfold psz
  simp only [List.map_append, List.map_cons, List.sum_append, List.sum_cons]
  omega
theorem okAt_set {e : Nat} {es : List CE} {i : Nat} {c : CE} (hi : i < es.length) (hu : c.u = (es.getD i cz).u) (hd : c.d = (es.getD i cz).d) (j : Nat) : okAt e (es.set i c) j = okAt e es j := by
  unfold okAt
  have h1 : ((es.set i c).getD j cz).u = (es.getD j cz).u := by
    rw [getD_set hi]; split
    · rename_i h; rw [hu, h]
    · rfl
  have h2 : ∀ q, ((es.set i c).getD q cz).d = (es.getD q cz).d := fun q => by
    rw [getD_set hi]; split
    · rename_i h; rw [hd, h]
    · rfl
  rw [h1, h2, h2]
theorem rise_set {e : Nat} {es : List CE} {i : Nat} {c : CE} (hi : i < es.length) (hu : c.u = (es.getD i cz).u) (hd : c.d = (es.getD i cz).d) : rise e (es.set i c) = rise e es := by
  unfold rise
  rw [List.length_set]
  congr 1
  funext j
  exact okAt_set hi hu hd j
theorem lastU_iff {es : List CE} : lastU es = true ↔ es.length = 0 ∨ (es.getD (es.length - 1) cz).u = true := by
  unfold lastU
  simp
/-- a Killer is set or taken away -/
theorem may_kill {k : Int} {es : List CE} (hk : k = 1 ∨ k = 2) (h : may k es = true) {i : Nat} (hi : i < es.length) (hu : (es.getD i cz).u = true) (t : Nat) : may k (es.set i ⟨(es.getD i cz).u, t, (es.getD i cz).d⟩) = true := by
  rw [may_iff] at h ⊢
  obtain ⟨h1, h2, h3, h4⟩ := h
  have hc : cmay (es.getD i cz) = true := by rw [getD_lt hi]; exact List.all_eq_true.1 h2 _ (List.getElem_mem hi)
  refine ⟨by rw [List.length_set]; exact h1, all_set h2 (cmay_kill hc hu t), ?_, ?_⟩
  · have := psz_set (c := ⟨(es.getD i cz).u, t, (es.getD i cz).d⟩) hi
    rw [csz_kill (es.getD i cz) t] at this
    omega
  · unfold stand at h4 ⊢
    rcases hk with rfl | rfl
    · rw [if_pos rfl] at h4 ⊢
      rw [lastU_iff] at h4 ⊢
      rw [List.length_set]
      rcases h4 with h4 | h4
      · exact Or.inl h4
      · right
        rw [getD_set hi]
        split
        · exact hu
        · exact h4
    · rw [if_neg (by decide), if_neg (by decide), if_pos rfl] at h4 ⊢
      rw [rise_set (c := ⟨(es.getD i cz).u, t, (es.getD i cz).d⟩) hi rfl rfl]
      exact h4
/-- a heap's cell is filled -/
theorem may_fill {es : List CE} (h : may 1 es = true) {i : Nat} (hi : i < es.length) {d : List Nat} (h1 : 1 ≤ d.length) (h2 : d.length ≤ 180) (hf : full (es.set i ⟨true, 0, d⟩) = false) : may 1 (es.set i ⟨true, 0, d⟩) = true := by
  rw [may_iff] at h ⊢
  obtain ⟨g1, g2⟩ := full_no hf
  refine ⟨g1, all_set h.2.1 (cmay_data h1 h2), g2, ?_⟩
  have h4 := h.2.2.2
  unfold stand at h4 ⊢
  rw [if_pos rfl] at h4 ⊢
  rw [lastU_iff] at h4 ⊢
  rw [List.length_set]
  rcases h4 with h4 | h4
  · exact Or.inl h4
  · right
    rw [getD_set hi]
    split
    · rfl
    · exact h4
theorem all_ins {es : List CE} {i : Nat} {c : CE} (h : es.all cmay = true) (hc : cmay c = true) : (es.take i ++ c :: es.drop i).all cmay = true := by
  rw [List.all_eq_true] at h ⊢
  intro x hx
  rcases List.mem_append.1 hx with hx | hx
  · exact h x (List.mem_of_mem_take hx)
  · rcases List.mem_cons.1 hx with rfl | hx
    · exact hc
    · exact h x (List.mem_of_mem_drop hx)
theorem getD_ins {es : List CE} {i j : Nat} {c : CE} (hi : i ≤ es.length) : (es.take i ++ c :: es.drop i).getD j cz = if j < i then es.getD j cz else if j = i then c else es.getD (j - 1) cz := by
  have hl : (es.take i).length = i := by rw [List.length_take]; omega
  simp only [List.getD, List.getElem?_append, hl]
  by_cases h1 : j < i
  · rw [if_pos h1, if_pos h1, List.getElem?_take_of_lt h1]
  · rw [if_neg h1, if_neg h1]
    by_cases h2 : j = i
    · subst h2; simp
    · rw [if_neg h2]
      obtain ⟨q, hq⟩ : ∃ q, j - i = q + 1 := ⟨j - i - 1, by omega⟩
      rw [hq, List.getElem?_cons_succ, List.getElem?_drop]
      congr 2
      omega
theorem len_ins {es : List CE} {i : Nat} {c : CE} (hi : i ≤ es.length) : (es.take i ++ c :: es.drop i).length = es.length + 1 := by
  simp
  omega
/-- a heap's cell is added -/
theorem may_add {es : List CE} (h : may 1 es = true) {d : List Nat} (h1 : 1 ≤ d.length) (h2 : d.length ≤ 180) (hf : full (es.take es.length ++ ⟨true, 0, d⟩ :: es.drop es.length) = false) : may 1 (es.take es.length ++ ⟨true, 0, d⟩ :: es.drop es.length) = true := by
  rw [may_iff] at h ⊢
  obtain ⟨g1, g2⟩ := full_no hf
  refine ⟨g1, all_ins h.2.1 (cmay_data h1 h2), g2, ?_⟩
  unfold stand
  rw [if_pos rfl, lastU_iff]
  right
  rw [len_ins (Nat.le_refl _), getD_ins (Nat.le_refl _)]
  simp
theorem ltb_tri {a b : List Nat} (h1 : ltb a b = false) (h2 : seq a b = false) : ltb b a = true := by
  unfold ltb at h1 ⊢
  unfold seq at h2
  generalize u8l a = x at h1 h2
  generalize u8l b = y at h1 h2
  induction x generalizing y with
  | nil =>
    cases y with
    | nil => simp at h2
    | cons c y => simp [Op.bytesLess] at h1
  | cons c x ih =>
    cases y with
    | nil => simp [Op.bytesLess]
    | cons e y =>
      unfold Op.bytesLess at h1 ⊢
      simp only [Bool.or_eq_false_iff, Bool.and_eq_false_iff, decide_eq_false_iff_not, beq_eq_false_iff_ne] at h1
      simp only [Bool.or_eq_true, Bool.and_eq_true, decide_eq_true_eq, beq_iff_eq]
      by_cases hce : c = e
      · subst hce
        right
        refine ⟨rfl, ih y ?_ ?_⟩
        · rcases h1.2 with h | h
          · exact absurd rfl h
          · exact h
        · simpa using h2
      · left
        have h3 := UInt8.not_lt.1 h1.1
        exact UInt8.lt_of_le_of_ne h3 fun e' => hce e'.symm
/-- a leaf's entry is put where it belongs -/
theorem rise_ins {es : List CE} (h : rise 0 es = true) {d : List Nat} (hn : isThere es d = false) : rise 0 (es.take (lbd es d) ++ ⟨true, 0, d⟩ :: es.drop (lbd es d)) = true := by
  have hle := lbd_le es d
  have hat : lbd es d < es.length → ltb d (es.getD (lbd es d) cz).d = true := fun hlt => by
    have h1 := lbd_at hlt
    have h2 : seq (es.getD (lbd es d) cz).d d = false := by
      unfold isThere at hn
      rw [decide_eq_true hlt, Bool.true_and] at hn
      exact hn
    exact ltb_tri h1 h2
  have hbelow : ∀ k, k < lbd es d → ltb (es.getD k cz).d d = true := fun k hk => lbd_below hk
  generalize lbd es d = i at hle hat hbelow ⊢
  unfold rise
  rw [all_rng, len_ins hle]
  intro j hj
  unfold okAt
  simp only [ent_zero, Bool.and_eq_true, Bool.or_eq_true, beq_iff_eq]
  rw [getD_ins hle, getD_ins hle]
  rcases Nat.lt_trichotomy j i with hlt | heq | hgt
  · rw [if_pos hlt, if_pos (show j - 1 < i by omega)]
    have h1 := rise_at h (show j < es.length by omega)
    exact ⟨h1.1, by by_cases h0 : j = 0; exact Or.inl h0; exact Or.inr (h1.2 (by omega))⟩
  · rw [if_neg (show ¬ j < i by omega), if_pos heq]
    refine ⟨rfl, ?_⟩
    by_cases h0 : j = 0
    · exact Or.inl h0
    · right
      rw [if_pos (show j - 1 < i by omega)]
      exact hbelow _ (by omega)
  · rw [if_neg (show ¬ j < i by omega), if_neg (show ¬ j = i by omega)]
    have h1 := rise_at h (show j - 1 < es.length by omega)
    refine ⟨h1.1, Or.inr ?_⟩
    rw [if_neg (show ¬ j - 1 < i by omega)]
    by_cases h2 : j - 1 = i
    · rw [if_pos h2, h2]
      exact hat (by omega)
    · rw [if_neg h2]
      exact h1.2 (by omega)
theorem may_ins {es : List CE} (h : may 2 es = true) {d : List Nat} (h1 : 1 ≤ d.length) (h2 : d.length ≤ 180) (hn : isThere es d = false) (hf : full (es.take (lbd es d) ++ ⟨true, 0, d⟩ :: es.drop (lbd es d)) = false) :
    may 2 (es.take (lbd es d) ++ ⟨true, 0, d⟩ :: es.drop (lbd es d)) = true := by
  have hr := may_rise h rfl
  rw [may_iff] at h ⊢
  obtain ⟨g1, g2⟩ := full_no hf
  refine ⟨g1, all_ins h.2.1 (cmay_data h1 h2), g2, ?_⟩
  unfold stand
  rw [if_neg (by decide), if_neg (by decide), if_pos rfl]
  exact rise_ins hr hn
theorem trimN_congr {a b : List CE} : ∀ k, (∀ j, j < k → (a.getD j cz).u = (b.getD j cz).u) → trimN a k = trimN b k
  | 0, _ => rfl
  | k + 1, h => by
    rw [trimN_succ, trimN_succ, h k (by omega), trimN_congr k fun j hj => h j (by omega)]
theorem trim_last {es : List CE} (h : lastU es = true) : trim es = es := by
  rw [lastU_iff] at h
  unfold trim
  cases hn : es.length with
  | zero => rw [List.eq_nil_of_length_eq_zero hn]; rfl
  | succ n =>
    rw [hn] at h
    rw [trimN_succ]
    rcases h with h | h
    · omega
    · rw [show n + 1 - 1 = n by omega] at h
      rw [h, if_pos rfl, List.take_of_length_le (by omega)]
theorem trim_snoc {es : List CE} {c : CE} (hc : c.u = false) : trim (es ++ [c]) = trim es := by
  unfold trim
  rw [List.length_append, List.length_singleton, trimN_succ]
  have h1 : (es ++ [c]).getD es.length cz = c := by simp [List.getD]
  rw [h1, hc, if_neg (by simp)]
  have h2 : trimN (es ++ [c]) es.length = trimN es es.length := trimN_congr _ fun j hj => by
    simp only [List.getD, List.getElem?_append_left hj]
  rw [h2, List.take_append_of_le_length (trimN_le _ _)]
theorem cmay_unused {c : CE} (h : cmay c = true) (hu : c.u = false) : c = cz := by
  obtain ⟨u, k, d⟩ := c
  simp only at hu
  subst hu
  unfold cmay at h
  simp at h
  obtain ⟨h1, h2⟩ := h
  subst h1 h2
  rfl
theorem lbd_map (es : List CE) (d : List Nat) : lbd es d = (es.map CE.d).findIdx fun x => !ltb x d := by
  unfold lbd
  rw [List.findIdx_map]
  rfl
theorem map_d_set {es : List CE} {i : Nat} (hi : i < es.length) (t : Nat) : (es.set i ⟨(es.getD i cz).u, t, (es.getD i cz).d⟩).map CE.d = es.map CE.d := by
  rw [List.map_set]
  simp only
  rw [getD_lt hi]
  refine List.ext_getElem? fun j => ?_
  rw [List.getElem?_set]
  split
  · rename_i h
    subst h
    simp [hi]
  · rfl
theorem getD_d {es : List CE} {i : Nat} : (es.getD i cz).d = (es.map CE.d).getD i [] := by
  simp only [List.getD, List.getElem?_map]
  cases es[i]? <;> rfl
theorem place_kill {k : Int} {es : List CE} {i : Nat} (hi : i < es.length) (t : Nat) (os : Int) (od : List Nat) : place k (es.set i ⟨(es.getD i cz).u, t, (es.getD i cz).d⟩) os od = place k es os od := by
  unfold place
  split
  · rw [List.length_set, getD_set hi]
    congr 2
    split
    · rename_i h; rw [h]
    · rfl
  · unfold isThere
    rw [lbd_map, lbd_map, map_d_set hi, List.length_set, getD_d, map_d_set hi, getD_d]
theorem lbd_ins (es : List CE) (d : List Nat) : lbd (es.take (lbd es d) ++ ⟨true, 0, d⟩ :: es.drop (lbd es d)) d = lbd es d := by
  have hle := lbd_le es d
  have h1 : lbd es d < (es.take (lbd es d) ++ (⟨true, 0, d⟩ : CE) :: es.drop (lbd es d)).length := by rw [len_ins hle]; omega
  conv => lhs; unfold lbd
  refine (List.findIdx_eq h1).2 ⟨?_, fun j hj => ?_⟩
  · have := getD_lt h1
    rw [← this, getD_ins hle, if_neg (by omega), if_pos rfl]
    simp [ltb_irr]
  · have := getD_lt (show j < (es.take (lbd es d) ++ (⟨true, 0, d⟩ : CE) :: es.drop (lbd es d)).length by omega)
    rw [← this, getD_ins hle, if_pos hj, lbd_below hj]
    rfl
theorem drop_ins {es : List CE} {i : Nat} {c : CE} (hi : i ≤ es.length) : (es.take i ++ c :: es.drop i).take i ++ (es.take i ++ c :: es.drop i).drop (i + 1) = es := by
  have hl : (es.take i).length = i := by rw [List.length_take]; omega
  rw [List.take_left' hl, List.drop_append, List.drop_of_length_le (by omega), List.nil_append, hl, show i + 1 - i = 1 by omega]
  simp
end Go.Proofs.Ytajmpoanmdgmpaa
/-
  THE MATHEMATICS OF OPERATIONS: a Put and a Kill are undone.
-/
namespace Go.Proofs.Ytajmpoanmdgmpaa

theorem DoM_parts {k : Int} {es es1 : List CE} {ok os : Int} {ot m : Nat} {od : List Nat} (h : DoM k es ok os ot m od = (0, es1)) : may k es = true ∧ rightP k ok os ot m = true ∧ doM k es ok os ot od = (0, es1) := by
  unfold DoM at h
  split at h
  · rename_i h1
    split at h
    · rename_i h2
      exact ⟨h1, h2, h⟩
    · injection h with h; cases h
  · injection h with h; cases h
theorem DoM_of {k : Int} {es : List CE} {ok os : Int} {ot m : Nat} {od : List Nat} (h1 : may k es = true) (h2 : rightP k ok os ot m = true) : DoM k es ok os ot m od = doM k es ok os ot od := by
  unfold DoM
  rw [if_pos h1, if_pos h2]
theorem putM_parts {k : Int} {es es1 : List CE} {at_ : Int} {th : Bool} {od : List Nat} (h : putM k es at_ th od = (0, es1)) : ∃ i : Nat, at_ = (i : Int) ∧ i ≤ es.length ∧ th = false ∧ full es1 = false ∧ es1 = insM k es i od := by
  unfold putM at h
  split at h
  · injection h with h; cases h
  rename_i hr
  split at h
  · injection h with h; cases h
  rename_i hth
  split at h
  · injection h with h; cases h
  rename_i hf
  injection h with _ h
  refine ⟨at_.toNat, by omega, by omega, by simpa using hth, ?_, h.symm⟩
  rw [← h]
  simpa using hf
theorem right_parts2 {kd k s : Int} {t m : Nat} (h : rightP kd k s t m = true) : (k = 2 → t ≠ 0) ∧ (k ≠ 2 → t = 0) ∧ (kd = 2 → s = 0 ∧ 1 ≤ m ∧ m ≤ 180) ∧ (kd = 1 → k = 1 → 1 ≤ m ∧ m ≤ 180) ∧ (kd = 1 → k ≠ 1 → m = 0) := by
  unfold rightP at h
  split at h
  · cases h
  split at h
  · cases h
  split at h
  · cases h
  split at h
  · cases h
  rename_i h4
  have hdo : ∀ m, dataOk m = true → 1 ≤ m ∧ m ≤ 180 := fun m h => by
    unfold dataOk at h
    simpa only [Bool.and_eq_true, decide_eq_true_eq] using h
  refine ⟨fun hk => ?_, fun hk => ?_, fun hkd => ?_, fun hkd hk => ?_, fun hkd hk => ?_⟩
  · intro ht; exact h4 (by rw [decide_eq_true ht, decide_eq_true hk])
  · refine Classical.byContradiction fun ht => h4 ?_
    rw [decide_eq_false ht, decide_eq_false hk]
  · rw [if_pos hkd] at h
    split at h
    · rename_i hs; exact ⟨hs, hdo m h⟩
    · cases h
  · rw [if_neg (by omega), if_pos hk] at h; exact hdo m h
  · rw [if_neg (by omega), if_neg hk] at h; simpa using h
theorem right_undo {kd k s' : Int} {m : Nat} (hkd : kd = 1 ∨ kd = 2) (hk : k = 3 ∨ k = 4) (h2 : kd = 2 → s' = 0 ∧ 1 ≤ m ∧ m ≤ 180) (h1 : kd = 1 → m = 0) : rightP kd k s' 0 m = true := by
  unfold rightP
  have ht : takes kd = true := by unfold takes; rcases hkd with h | h <;> simp [h]
  rw [ht, if_neg (by decide), if_neg (by omega), if_neg (by omega), if_neg (by rw [decide_eq_true rfl, decide_eq_false (by omega)]; decide)]
  rcases hkd with h | h
  · rw [if_neg (by omega), if_neg (by omega)]
    simpa using h1 h
  · obtain ⟨g1, g2, g3⟩ := h2 h
    rw [if_pos h, if_pos g1]
    unfold dataOk
    simp [g2, g3]
theorem place_heap {es : List CE} {i : Nat} {od : List Nat} (hi : i < es.length) (hu : (es.getD i cz).u = true) : place 1 es (i : Int) od = ((i : Int), true) := by
  unfold place
  rw [if_pos rfl]
  have e1 : ((i : Int)).toNat = i := by omega
  rw [e1, hu, decide_eq_true (show (0 : Int) ≤ (i : Int) by omega), decide_eq_true hi]
  rfl
theorem set_back {es : List CE} {i : Nat} {c : CE} (hi : i < es.length) (h : es.getD i cz = c) : es.set i c = es := by
  rw [← h, getD_lt hi, List.set_getElem_self]
theorem put_undone {k : Int} {es es1 : List CE} {os : Int} {od : List Nat} (hk : k = 1 ∨ k = 2) (hmay : may k es = true) (h : putM k es (place k es os od).1 (place k es os od).2 od = (0, es1)) (h1 : 1 ≤ od.length) (h2 : od.length ≤ 180) :
    may k es1 = true ∧ freeM k es1 (place k es1 os (if k = 2 then od else [])).1 (place k es1 os (if k = 2 then od else [])).2 = (0, es) ∧ es1 ≠ es := by
  obtain ⟨i, hat, hi, hth, hfull, he⟩ := putM_parts h
  rcases hk with rfl | rfl
  · have hos : os = (i : Int) := by
      unfold place at hat
      rw [if_pos rfl] at hat
      exact hat
    subst hos
    rw [if_neg (by decide)]
    unfold insM at he
    by_cases hlt : i < es.length
    · rw [if_pos ⟨rfl, hlt⟩] at he
      have hu : (es.getD i cz).u = false := by
        unfold place at hth
        rw [if_pos rfl] at hth
        have e1 : ((i : Int)).toNat = i := by omega
        simp only [e1] at hth
        rw [decide_eq_true (show (0 : Int) ≤ (i : Int) by omega), decide_eq_true hlt, Bool.true_and, Bool.true_and] at hth
        exact hth
      have hcz : es.getD i cz = cz := by
        refine cmay_unused ?_ hu
        rw [getD_lt hlt]
        exact List.all_eq_true.1 (may_iff.1 hmay).2.1 _ (List.getElem_mem hlt)
      have hl1 : i < es1.length := by rw [he, List.length_set]; exact hlt
      have hu1 : (es1.getD i cz).u = true := by rw [he, getD_set hlt, if_pos rfl]
      refine ⟨by rw [he]; rw [he] at hfull; exact may_fill hmay hlt h1 h2 hfull, ?_, fun e => ?_⟩
      · rw [place_heap hl1 hu1]
        unfold freeM
        have e1 : ((i : Int)).toNat = i := by omega
        rw [if_pos rfl, if_neg (by decide)]
        simp only [e1]
        rw [he, List.set_set, set_back hlt hcz, trim_last]
        have h4 := (may_iff.1 hmay).2.2.2
        unfold stand at h4
        rw [if_pos rfl] at h4
        exact h4
      · rw [e, hcz] at hu1
        cases hu1
    · obtain rfl : i = es.length := by omega
      rw [if_neg (by omega)] at he
      have hl1 : es.length < es1.length := by rw [he, len_ins (Nat.le_refl _)]; omega
      have hu1 : (es1.getD es.length cz).u = true := by rw [he, getD_ins (Nat.le_refl _), if_neg (by omega), if_pos rfl]
      refine ⟨by rw [he]; rw [he] at hfull; exact may_add hmay h1 h2 hfull, ?_, fun e => by rw [e] at hl1; omega⟩
      rw [place_heap hl1 hu1]
      unfold freeM
      have e1 : ((es.length : Int)).toNat = es.length := by omega
      rw [if_pos rfl, if_neg (by decide)]
      simp only [e1]
      have e2 : es1.set es.length cz = es ++ [cz] := by
        rw [he, List.take_length, List.drop_length]
        simp
      rw [e2, trim_snoc rfl, trim_last]
      have h4 := (may_iff.1 hmay).2.2.2
      unfold stand at h4
      rw [if_pos rfl] at h4
      exact h4
  · have hi2 : i = lbd es od := by
      unfold place at hat
      rw [if_neg (by decide)] at hat
      simp only at hat
      omega
    subst hi2
    have hn : isThere es od = false := by
      unfold place at hth
      rw [if_neg (by decide)] at hth
      exact hth
    unfold insM at he
    rw [if_neg (by omega)] at he
    rw [if_pos rfl]
    have hp : place 2 es1 os od = ((lbd es od : Int), true) := by
      unfold place
      rw [if_neg (by decide)]
      unfold isThere
      rw [he, lbd_ins, len_ins hi, getD_ins hi, if_neg (by omega), if_pos rfl, decide_eq_true (show lbd es od < es.length + 1 by omega)]
      simp [seq]
    refine ⟨by rw [he]; rw [he] at hfull; exact may_ins hmay h1 h2 hn hfull, ?_, fun e => ?_⟩
    · rw [hp]
      unfold freeM
      have e1 : ((lbd es od : Int)).toNat = lbd es od := by omega
      rw [if_pos rfl, if_pos rfl]
      simp only [e1]
      rw [he, drop_ins hi]
    · have hl : es1.length = es.length + 1 := by rw [he, len_ins hi]
      rw [e] at hl
      omega
theorem kill_undone {k : Int} {es es1 : List CE} {os : Int} {ot : Nat} {od : List Nat} (hk : k = 1 ∨ k = 2) (hmay : may k es = true) (h : killM es (place k es os od).1 (place k es os od).2 ot = (0, es1)) (ht : ot ≠ 0) (hod : k = 1 → od = []) :
    may k es1 = true ∧ wakeM es1 (place k es1 os (if k = 2 then od else [])).1 (place k es1 os (if k = 2 then od else [])).2 = (0, es) ∧ es1 ≠ es := by
  have hod2 : (if k = 2 then od else []) = od := by
    rcases hk with h | h
    · rw [if_neg (by omega), hod h]
    · rw [if_pos h]
  rw [hod2]
  unfold killM at h
  split at h
  · rename_i hth
    split at h
    · rename_i hk0
      injection h with _ h
      obtain ⟨h0, hlt⟩ := place_there hth
      obtain ⟨i, hi⟩ : ∃ i, i = (place k es os od).1.toNat := ⟨_, rfl⟩
      rw [← hi] at h hk0 hlt
      have hu : (es.getD i cz).u = true := by
        rcases hk with rfl | rfl
        · unfold place at hth hi
          rw [if_pos rfl] at hth hi
          simp only [Bool.and_eq_true, decide_eq_true_eq] at hth hi
          rw [hi]; exact hth.2.2
        · exact (rise_at (may_rise hmay rfl) hlt).1
      have he : es1 = es.set i ⟨(es.getD i cz).u, ot, (es.getD i cz).d⟩ := h.symm
      have hk1 : (es1.getD i cz).k = ot := by rw [he, getD_set hlt, if_pos rfl]
      refine ⟨by rw [he]; exact may_kill hk hmay hlt hu ot, ?_, fun e => ?_⟩
      · have hp : place k es1 os od = place k es os od := by rw [he]; exact place_kill hlt ot os od
        rw [hp]
        unfold wakeM
        rw [hth, if_pos rfl, ← hi, hk1, if_neg ht]
        rw [he, getD_set hlt, if_pos rfl, List.set_set]
        have e9 : (⟨(es.getD i cz).u, 0, (es.getD i cz).d⟩ : CE) = es.getD i cz := by rw [← hk0]
        rw [e9, set_back hlt rfl]
      · rw [e, hk0] at hk1
        exact ht hk1.symm
    · injection h with h; cases h
  · injection h with h; cases h
/-- a Put or a Kill, and what undoes it -/
theorem there_math {k : Int} {es es1 : List CE} {ok os : Int} {ot m : Nat} {od : List Nat} (h : DoM k es ok os ot m od = (0, es1)) (hm : od.length = m) (hok : ok = 1 ∨ ok = 2) :
    (undoR k ok os ot m od).e = 0 ∧ DoM k es1 (undoR k ok os ot m od).k (undoR k ok os ot m od).s 0 (undoR k ok os ot m od).d.length (undoR k ok os ot m od).d = (0, es) ∧ es1 ≠ es := by
  obtain ⟨hmay, hright, hdo⟩ := DoM_parts h
  have hk := (right_parts hright).1
  obtain ⟨r1, r2, r3, r4, r5⟩ := right_parts2 hright
  unfold undoR
  rw [if_pos ⟨hright, hok⟩]
  simp only
  unfold doM at hdo
  rcases hok with h1 | h1
  · rw [if_pos h1] at hdo ⊢
    have hmm : 1 ≤ od.length ∧ od.length ≤ 180 := by
      rcases hk with h | h
      · have := r4 h h1; omega
      · have := r3 h; omega
    obtain ⟨a, b, c⟩ := put_undone hk hmay hdo hmm.1 hmm.2
    refine ⟨trivial, ?_, c⟩
    rw [DoM_of a (right_undo hk (Or.inr rfl) (fun h => by rw [if_pos h]; exact ⟨(r3 h).1, hmm⟩) (fun h => by rw [if_neg (by omega)]; rfl))]
    unfold doM
    rw [if_neg (by decide), if_neg (by decide), if_neg (by decide)]
    exact b
  · rw [if_neg (by omega), if_pos h1] at hdo
    rw [if_neg (by omega)]
    obtain ⟨a, b, c⟩ := kill_undone hk hmay hdo (r1 h1) (fun h => List.eq_nil_of_length_eq_zero (by have := r5 h (by omega); omega))
    refine ⟨trivial, ?_, c⟩
    rw [DoM_of a (right_undo hk (Or.inl rfl) (fun h => by rw [if_pos h]; have := r3 h; exact ⟨this.1, by omega, by omega⟩) (fun h => by rw [if_neg (by omega)]; rfl))]
    unfold doM
    rw [if_neg (by decide), if_neg (by decide), if_pos rfl]
    exact b
end Go.Proofs.Ytajmpoanmdgmpaa
/-
  THE WALK OF at.
-/
namespace Go.Proofs.Ytajmpoanmdgmpaa
open Go.RowKit

attribute [local go_sem high] run_neqL run_eqL
def CV.none_ : CV := ⟨false, 0, none, 0, 0, []⟩
def atC (l : List CV) (d : List Nat) : CV := (l.find? fun x => decide (x.d = d)).getD CV.none_
theorem atC_here {l : List CV} {d : List Nat} {k : Nat} {x : CV} (hx : l[k]? = some x) (hn : ∀ y ∈ l.take k, y.d ≠ d) (hd : x.d = d) : atC l d = x := by
  have hk : k < l.length := by
    rcases Nat.lt_or_ge k l.length with h' | h'
    · exact h'
    · rw [List.getElem?_eq_none h'] at hx; cases hx
  have e : l[k] = x := by rw [List.getElem?_eq_getElem hk] at hx; injection hx
  have h1 : l = l.take k ++ x :: l.drop (k + 1) := by
    rw [← e, ← List.drop_eq_getElem_cons hk, List.take_append_drop]
  unfold atC
  rw [h1, List.find?_append, List.find?_eq_none.2 (fun y hy => by simpa using hn y hy)]
  simp [hd]
theorem atC_no {l : List CV} {d : List Nat} (hn : ∀ y ∈ l, y.d ≠ d) : atC l d = CV.none_ := by
  unfold atC
  rw [List.find?_eq_none.2 (fun y hy => by simpa using hn y hy)]
  rfl
theorem atC_next {l : List CV} {d : List Nat} {k : Nat} {x : CV} (hx : l[k]? = some x) (hn : ∀ y ∈ l.take k, y.d ≠ d) (hd : x.d ≠ d) : ∀ y ∈ l.take (k + 1), y.d ≠ d := by
  have hk : k < l.length := by
    rcases Nat.lt_or_ge k l.length with h' | h'
    · exact h'
    · rw [List.getElem?_eq_none h'] at hx; cases hx
  have e : l[k] = x := by rw [List.getElem?_eq_getElem hk] at hx; injection hx
  intro y hy
  rw [List.take_succ_eq_append_getElem hk, e, List.mem_append, List.mem_singleton] at hy
  rcases hy with hy | rfl
  · exact hn y hy
  · exact hd
set_option maxHeartbeats 2000000 in
set_option maxRecDepth 100000 in
theorem at_any (p : PV) (w : World) (h : p.In w All All) (hf : Few p) (oA : Option Addr) (om oc : Nat) (od : List Nat) (hb : RB w All oA om od) : Calls Try.prog 37 #[p.agg, .slice oA om oc] w fun e w' => e = .returned (atC p.l od).agg ∧ Below w.heap.size w w' := by
  obtain ⟨W1, hW1, hBW1, hbx1, hsz1⟩ := box_page w p
  obtain ⟨W, hW⟩ : ∃ W, W1.alloc (.cells #[.bool false, .int .u32 0, .slice none 0 0] 58) = W := ⟨_, rfl⟩
  have hBW2 : Below W1.heap.size W1 W := by rw [← hW]; exact (Below.refl _ _).alloc (Nat.le_refl _) _
  have hbr : Blk W W1.heap.size 58 #[.bool false, .int .u32 0, .slice none 0 0] := by rw [← hW]; exact Blk.new _ _ _
  have hBW : Below w.heap.size w W := hBW1.trans (hBW2.mono hBW1.size)
  have hbx : Blk W w.heap.size 26 (pcs p) := hbx1.below hBW2 (by omega)
  have HP := Lib.hid (h.below hBW)
  have HOB : Hid (RB W All oA om od) := Lib.hid (hb.keep (Fr.of_below hBW No) fun _ _ hn => hn)
  have HBW := Lib.hid hBW
  have HBX := Lib.hid hbx
  have HBR := Lib.hid hbr
  have HL := Lib.hid h.r.1
  have HSZ1 := Lib.hid hsz1
  obtain ⟨y0, y1, y2, y3⟩ := pcs_cells hbx
  obtain ⟨pk, ps, px, A, n, c, l⟩ := p
  simp only at hW1 hW y0 y1 y2 y3
  simp only [PV.agg] at HL ⊢
  have hn3 : n ≤ 300 := hf.n
  clear h hf hb hBW1 hBW2 hbx1 hbx hbr hBW hsz1
  go_enter Try.func37, Try.ntmps37
  go_wp2_with fail
  go_loopw [5] (fun i wr => ∃ k : Nat, k ≤ n ∧ i = .int .i64 (k : Int) ∧ (∀ y ∈ l.take k, y.d ≠ od) ∧ Fr W wr No) (fun i _ => n - (intOf i).toNat)
  case atStart => exact ⟨0, by omega, rfl, by simp, Fr.refl _ _⟩
  case round =>
    obtain ⟨k, hk, rfl, hall, hfr⟩ := hrel
    have HA := Lib.hid hall
    have HFR := Lib.hid hfr
    have hwk : IntKind.i64.wrap (k : Int) = (k : Int) := IntWalk.i64_in _ (by omega)
    obtain ⟨y0, y1, y2, y3⟩ := pcs_cells (HBX.out.keep hfr fun hn => hn)
    have hbr := HBR.out.keep hfr fun hn => hn
    have HRR := Lib.hid hbr
    have r0 := hbr.cell 0
    have rz0 := hbr.frozen 0
    have r1 := hbr.cell 1
    have rz1 := hbr.frozen 1
    have r2 := hbr.cell 2
    have rz2 := hbr.frozen 2
    simp only [List.getElem?_toArray, List.getElem?_cons_zero, List.getElem?_cons_succ] at r0 r1 r2
    simp only at y0 y1 y2 y3
    have hcb : ∀ q, (convert 32 9 (.slice oA om oc)).run Try.prog (wr.drewN q) = .ok (.string (strOf od)) (wr.drewN q) := fun q => run_conv All oA om oc od _ (HOB.out.keep (hfr.drewN q) fun _ _ hn => hn)
    clear hall hfr hbr
    by_cases hlt : k < n
    · obtain ⟨g, o, x, rfl, hg, _, hx, hxi, b0, b1, b2⟩ := (HP.out.r.keep HFR.out (fun _ _ hn => hn) fun _ _ hn => hn).at_ hlt
      have HX := Lib.hid hx
      have hcx : ∀ q, (convert 32 9 (.slice x.A x.m x.c)).run Try.prog (wr.drewN q) = .ok (.string (strOf x.d)) (wr.drewN q) := fun q => run_conv All x.A x.m x.c x.d _ (hxi.b.keep ((Fr.refl wr No).drewN q) fun _ _ hn => hn)
      have hsq : seq x.d od = decide (x.d = od) := seq_iff hxi.b.lt HOB.out.lt
      have HXE := Lib.hid (rfl : x = x)
      obtain ⟨u, kk, xA, m, xc, d⟩ := x
      simp only at b0 b1 b2 hcx hsq
      have hWi : IntKind.i64.wrap ((k : Int) + 1) = ((k + 1 : Nat) : Int) := by rw [IntWalk.i64_in _ (by omega)]; omega
      have hin : ((k : Int) < (n : Int)) := by omega
      clear hx hxi
      by_cases q3 : d = od
      · have z3 : seq d od = true := by rw [hsq, decide_eq_true_eq]; exact q3
        have HN2 := Lib.hid (atC_here HX.out HA.out q3)
        clear q3 hsq
        go_wp2_with fail
        go_quiet (fail)
        go_wp2_with fail
        have hbg : ∀ q, Blk ((((wr.drewN q).setCell ⟨W1.heap.size, 0, none⟩ (.bool u)).setCell ⟨W1.heap.size, 1, none⟩ (.int .u32 (kk : Int))).setCell ⟨W1.heap.size, 2, none⟩ (.slice xA m xc)) W1.heap.size 58 #[.bool u, .int .u32 (kk : Int), .slice xA m xc] := fun q => ((((HRR.out.drewN q).set_ 0 _).set_ 1 _).set_ 2 _)
        have g0 := fun q => (hbg q).cell 0
        have g1 := fun q => (hbg q).cell 1
        have g2 := fun q => (hbg q).cell 2
        simp only [List.getElem?_toArray, List.getElem?_cons_zero, List.getElem?_cons_succ] at g0 g1 g2
        refine bodyPost_ret (v := .agg #[.bool u, .int .u32 (kk : Int), .slice xA m xc]) (by simp [results, Try.results37, go_sem, g0, g1, g2]) rfl ?_
        refine ⟨by rw [HN2.out]; rfl, HBW.out.trans (Fr.below (S := fun b => b = W1.heap.size) (fr_set (fr_set (fr_set ((HFR.out.drewN _).mono fun _ _ h => False.elim h) _ _) _ _) _ _) (fun b hb => ?_) HBW.out.size)⟩
        have := HSZ1.out
        omega
      · have z3 : seq d od = false := by rw [hsq, decide_eq_false_iff_not]; exact q3
        have HN2 := Lib.hid (atC_next HX.out HA.out q3)
        clear q3 hsq
        go_wp2_with fail
        go_quiet (fail)
        go_wp2_with fail
        go_roundw
        case rel => exact ⟨k + 1, by omega, by go_num, HN2.out, HFR.out.drewN _⟩
        case measure => simp [intOf]; omega
    · have h1d : decide ((k : Int) < (n : Int)) = false := decide_eq_false (by omega)
      have h1d2 : decide (k < n) = false := decide_eq_false hlt
      have HN := Lib.hid (show atC l od = CV.none_ from atC_no (by have := HA.out; rwa [List.take_of_length_le (by rw [HL.out]; omega)] at this))
      go_wp2
      have hbg : Blk (((wr.setCell ⟨W1.heap.size, 0, none⟩ (.bool false)).setCell ⟨W1.heap.size, 1, none⟩ (.int .u32 0)).setCell ⟨W1.heap.size, 2, none⟩ (.slice none 0 0)) W1.heap.size 58 #[.bool false, .int .u32 0, .slice none 0 0] := (((HRR.out.set_ 0 _).set_ 1 _).set_ 2 _)
      have g0 := hbg.cell 0
      have g1 := hbg.cell 1
      have g2 := hbg.cell 2
      simp only [List.getElem?_toArray, List.getElem?_cons_zero, List.getElem?_cons_succ] at g0 g1 g2
      refine bodyPost_ret (v := .agg #[.bool false, .int .u32 0, .slice none 0 0]) (by simp [results, Try.results37, go_sem, g0, g1, g2]) rfl ?_
      refine ⟨by rw [HN.out]; rfl, HBW.out.trans (Fr.below (S := fun b => b = W1.heap.size) (fr_set (fr_set (fr_set (HFR.out.mono fun _ _ h => False.elim h) _ _) _ _) _ _) (fun b hb => ?_) HBW.out.size)⟩
      have := HSZ1.out
      omega
end Go.Proofs.Ytajmpoanmdgmpaa
/-
  THE MATHEMATICS OF ROOM: a Put of as many bytes as there is room for is done, one of a byte more is not.
-/
namespace Go.Proofs.Ytajmpoanmdgmpaa

theorem right_put3 {kd s : Int} {m : Nat} (hkd : kd = 1 ∨ kd = 2) (hs : kd = 2 → s = 0) : rightP kd 1 s 0 m = dataOk m := by
  unfold rightP
  have ht : takes kd = true := by unfold takes; rcases hkd with h | h <;> simp [h]
  rw [ht, if_neg (by decide), if_neg (by decide), if_neg (by decide), if_neg (by decide)]
  rcases hkd with h | h
  · rw [if_neg (by omega), if_pos rfl]
  · rw [if_pos h, if_pos (hs h)]
theorem psz_ins {es : List CE} (i : Nat) (c : CE) : psz (es.take i ++ c :: es.drop i) = psz es + csz c := by
  have h : (es.map csz).sum = ((es.take i).map csz).sum + ((es.drop i).map csz).sum := by
    rw [← List.sum_append, ← List.map_append, List.take_append_drop]
  unfold psz
  rw [h]
  simp only [List.map_append, List.map_cons, List.sum_append, List.sum_cons]
  omega
theorem room_full {k : Int} {es : List CE} (hk : k = 1 ∨ k = 2) (hmay : may k es = true) {i : Nat} (hi : i ≤ es.length) (hs1 : k = 1 → (i = es.length ∧ unused es = false) ∨ (i < es.length ∧ (es.getD i cz).u = false)) {d : List Nat} (hd1 : 1 ≤ d.length) (hd : d.length ≤ 180) :
    (d.length ≤ roomN es → full (insM k es i d) = false) ∧ (roomN es < d.length → full (insM k es i d) = true) := by
  obtain ⟨m1, _, m3, m4⟩ := may_iff.1 hmay
  have hc : csz ⟨true, 0, d⟩ = 6 + d.length := rfl
  by_cases hin : k = 1 ∧ i < es.length
  · have hu := (hs1 hin.1).resolve_left (fun h => by omega)
    have hun : unused es = true := by
      unfold unused
      rw [List.any_eq_true]
      refine ⟨es.getD i cz, ?_, by rw [hu.2]; rfl⟩
      rw [getD_lt hin.2]
      exact List.getElem_mem _
    have hp := psz_set (c := ⟨true, 0, d⟩) hin.2
    have hz : csz (es.getD i cz) = 2 := by unfold csz; rw [hu.2]; rfl
    rw [hz, hc] at hp
    unfold insM roomN full
    rw [if_pos hin, hun, if_pos rfl, List.length_set]
    refine ⟨fun h => ?_, fun h => ?_⟩
    · rw [decide_eq_false (by omega), decide_eq_false (by omega)]; rfl
    · rw [decide_eq_true (show 512 < psz _ by omega), Bool.or_true]
  · have hun : unused es = false := by
      rcases hk with h | h
      · rcases hs1 h with h' | h'
        · exact h'.2
        · exact absurd ⟨h, h'.1⟩ hin
      · have hr := may_rise hmay h
        unfold unused
        rw [Bool.eq_false_iff]
        intro ha
        rw [List.any_eq_true] at ha
        obtain ⟨c, hcm, hcu⟩ := ha
        obtain ⟨j, hj, rfl⟩ := List.mem_iff_getElem.1 hcm
        have := (rise_at hr hj).1
        rw [getD_lt hj] at this
        rw [this] at hcu
        cases hcu
    have hp := psz_ins (es := es) i ⟨true, 0, d⟩
    have hl := len_ins (c := ⟨true, 0, d⟩) hi
    rw [hc] at hp
    unfold insM roomN full
    rw [if_neg hin, hun, if_neg (by decide), hl, hp]
    refine ⟨fun h => ?_, fun h => ?_⟩
    · split at h
      · omega
      · rw [decide_eq_false (by omega), decide_eq_false (by omega)]; rfl
    · split at h
      · rw [decide_eq_true (show 60 < es.length + 1 by omega), Bool.true_or]
      · rw [decide_eq_true (show 512 < psz es + (6 + d.length) by omega), Bool.or_true]
theorem roomN_le (es : List CE) : roomN es ≤ 180 := by
  unfold roomN
  split
  · omega
  · split <;> omega
theorem room_put {k : Int} {es : List CE} (hk : k = 1 ∨ k = 2) (hmay : may k es = true) {s : Nat} (hs1 : k = 1 → (s = es.length ∧ unused es = false) ∨ (s < es.length ∧ (es.getD s cz).u = false)) (hs2 : k = 2 → s = 0) {d : List Nat} (hd1 : 1 ≤ d.length) (hth : k = 2 → isThere es d = false) :
    (d.length ≤ roomN es → (DoM k es 1 (s : Int) 0 d.length d).1 = 0) ∧ (roomN es < d.length → (DoM k es 1 (s : Int) 0 d.length d).1 ≠ 0 ∧ (d.length ≤ 180 → (DoM k es 1 (s : Int) 0 d.length d).1 = 4)) := by
  have hR := roomN_le es
  have hright := right_put3 (m := d.length) (s := (s : Int)) hk (fun h => by have := hs2 h; omega)
  by_cases hd : d.length ≤ 180
  · have hr : rightP k 1 (s : Int) 0 d.length = true := by
      rw [hright]; unfold dataOk; simp [hd1, hd]
    rw [DoM_of hmay hr]
    have hdo : doM k es 1 (s : Int) 0 d = putM k es (place k es (s : Int) d).1 (place k es (s : Int) d).2 d := by unfold doM; rw [if_pos rfl]
    rw [hdo]
    have hpl : ∃ i : Nat, place k es (s : Int) d = ((i : Int), false) ∧ i ≤ es.length ∧ (k = 1 → (i = es.length ∧ unused es = false) ∨ (i < es.length ∧ (es.getD i cz).u = false)) := by
      rcases hk with h | h
      · refine ⟨s, ?_, ?_, hs1⟩
        · unfold place
          rw [if_pos h]
          have e1 : ((s : Int)).toNat = s := by omega
          rw [e1]
          rcases hs1 h with h' | h'
          · rw [decide_eq_false (show ¬ s < es.length by omega)]; simp
          · rw [h'.2]; simp
        · rcases hs1 h with h' | h' <;> omega
      · refine ⟨lbd es d, ?_, lbd_le es d, fun h' => by omega⟩
        unfold place
        rw [if_neg (by omega), hth h]
    obtain ⟨i, e, hi, hsi⟩ := hpl
    rw [e]
    obtain ⟨f1, f2⟩ := room_full hk hmay hi hsi hd1 hd
    have hput : putM k es (i : Int) false d = if full (insM k es i d) then (4, []) else (0, insM k es i d) := by
      unfold putM
      rw [if_neg (by omega), if_neg (by decide)]
      rfl
    simp only
    rw [hput]
    refine ⟨fun h => by rw [f1 h]; rfl, fun h => by rw [f2 h]; exact ⟨by show (4 : Int) ≠ 0; decide, fun _ => rfl⟩⟩
  · have hr : rightP k 1 (s : Int) 0 d.length = false := by
      rw [hright]; unfold dataOk; rw [decide_eq_false hd, Bool.and_false]
    refine ⟨fun h => by omega, fun h => ⟨?_, fun h' => by omega⟩⟩
    unfold DoM
    rw [if_pos hmay, hr]
    show (1 : Int) ≠ 0
    decide
/-- a leaf that has no cell of some bytes in use has none -/
theorem at_leaf {es : List CV} {d : List Nat} (hmay : may 2 (es.map CV.e) = true) (hb : ∀ c ∈ es, ∀ x ∈ c.d, x < 256) (hd : ∀ x ∈ d, x < 256) (h : (atC es d).u = false) : isThere (es.map CV.e) d = false := by
  have hr := may_rise hmay rfl
  rw [Bool.eq_false_iff]
  intro ht
  unfold isThere at ht
  rw [Bool.and_eq_true, decide_eq_true_eq] at ht
  obtain ⟨h1, h2⟩ := ht
  have hl : lbd (es.map CV.e) d < es.length := by simpa using h1
  have hc : (es.map CV.e).getD (lbd (es.map CV.e) d) cz = es[lbd (es.map CV.e) d].e := by rw [getD_lt h1, List.getElem_map]
  rw [hc] at h2
  replace h2 : seq es[lbd (es.map CV.e) d].d d = true := h2
  rw [seq_iff (hb _ (List.getElem_mem hl)) hd, decide_eq_true_eq] at h2
  have hsome : (es.find? fun x => decide (x.d = d)).isSome := by
    rw [List.find?_isSome]
    exact ⟨_, List.getElem_mem hl, by simpa using h2⟩
  obtain ⟨c, hcf⟩ := Option.isSome_iff_exists.1 hsome
  have hm := List.mem_of_find?_eq_some hcf
  unfold atC at h
  rw [hcf] at h
  obtain ⟨j, hj, rfl⟩ := List.mem_iff_getElem.1 hm
  have hu := (rise_at hr (show j < (es.map CV.e).length by simpa using hj)).1
  rw [getD_lt (by simpa using hj), List.getElem_map] at hu
  have hu2 : es[j].u = true := hu
  simp only [Option.getD_some] at h
  rw [hu2] at h
  cases h
end Go.Proofs.Ytajmpoanmdgmpaa
/-
  THE MATHEMATICS OF AN OPERATION: the page may be behind it; it changes one cell alone.
-/
namespace Go.Proofs.Ytajmpoanmdgmpaa

theorem kill_parts {es es1 : List CE} {a : Int} {th : Bool} {t : Nat} (h : killM es a th t = (0, es1)) : th = true ∧ es1 = es.set a.toNat ⟨(es.getD a.toNat cz).u, t, (es.getD a.toNat cz).d⟩ := by
  unfold killM at h
  split at h
  · rename_i hth
    split at h
    · injection h with _ h; exact ⟨hth, h.symm⟩
    · injection h with h; cases h
  · injection h with h; cases h
theorem wake_parts {es es1 : List CE} {a : Int} {th : Bool} (h : wakeM es a th = (0, es1)) : th = true ∧ es1 = es.set a.toNat ⟨(es.getD a.toNat cz).u, 0, (es.getD a.toNat cz).d⟩ := by
  unfold wakeM at h
  split at h
  · rename_i hth
    split at h
    · injection h with h; cases h
    · injection h with _ h; exact ⟨hth, h.symm⟩
  · injection h with h; cases h
theorem free_parts {k : Int} {es es1 : List CE} {a : Int} {th : Bool} (h : freeM k es a th = (0, es1)) : th = true ∧ es1 = if k = 2 then es.take a.toNat ++ es.drop (a.toNat + 1) else trim (es.set a.toNat cz) := by
  unfold freeM at h
  split at h
  · rename_i hth
    injection h with _ h; exact ⟨hth, h.symm⟩
  · injection h with h; cases h
/-- where an operation's cell is there -/
theorem there_used {k : Int} {es : List CE} {os : Int} {od : List Nat} (hk : k = 1 ∨ k = 2) (hmay : may k es = true) (h : (place k es os od).2 = true) :
    ∃ i : Nat, (place k es os od).1 = (i : Int) ∧ i < es.length ∧ (es.getD i cz).u = true ∧ (k = 1 → os = (i : Int)) ∧ (k = 2 → seq (es.getD i cz).d od = true) := by
  obtain ⟨h0, hlt⟩ := place_there h
  obtain ⟨i, hi⟩ := Int.eq_ofNat_of_zero_le h0
  rw [hi] at hlt
  simp only [Int.toNat_natCast] at hlt
  refine ⟨i, hi, hlt, ?_, fun hk1 => ?_, fun hk2 => ?_⟩
  · rcases hk with rfl | rfl
    · unfold place at h hi
      rw [if_pos rfl] at h hi
      simp only [Bool.and_eq_true, decide_eq_true_eq] at h hi
      rw [hi] at h
      exact h.2.2
    · exact (rise_at (may_rise hmay rfl) hlt).1
  · unfold place at hi
    rw [if_pos hk1] at hi
    exact hi
  · unfold place at h hi
    rw [if_neg (by omega)] at h hi
    simp only at h hi
    unfold isThere at h
    rw [Bool.and_eq_true] at h
    have e : lbd es od = i := by omega
    rw [e] at h
    exact h.2
theorem trimN_last (es : List CE) : ∀ k, trimN es k = 0 ∨ (es.getD (trimN es k - 1) cz).u = true
  | 0 => Or.inl rfl
  | k + 1 => by
    rw [trimN_succ]
    split
    · rename_i h; right; simpa using h
    · exact trimN_last es k
theorem trimN_above (es : List CE) : ∀ k j, trimN es k ≤ j → j < k → (es.getD j cz).u = false
  | 0, j, _, h => by omega
  | k + 1, j, h1, h2 => by
    rw [trimN_succ] at h1
    split at h1
    · omega
    · rename_i h
      rcases Nat.lt_or_ge j k with h' | h'
      · exact trimN_above es k j h1 h'
      · obtain rfl : j = k := by omega
        simpa using h
theorem psz_le_take (es : List CE) (i : Nat) : psz (es.take i) ≤ psz es := by
  have h : (es.map csz).sum = ((es.take i).map csz).sum + ((es.drop i).map csz).sum := by
    rw [← List.sum_append, ← List.map_append, List.take_append_drop]
  unfold psz
  omega
theorem getD_take {es : List CE} {i j : Nat} (h : j < i) : (es.take i).getD j cz = es.getD j cz := by
  simp only [List.getD, List.getElem?_take, if_pos h]
theorem getD_out {es : List CE} {j : Nat} (h : es.length ≤ j) : es.getD j cz = cz := by
  simp [List.getD, List.getElem?_eq_none h]
theorem csz_min (c : CE) : 2 ≤ csz c := by unfold csz; split <;> omega
theorem may_trim {es : List CE} (h : may 1 es = true) {i : Nat} (hi : i < es.length) : may 1 (trim (es.set i cz)) = true := by
  rw [may_iff] at h ⊢
  obtain ⟨h1, h2, h3, h4⟩ := h
  have hp := psz_set (c := cz) hi
  have hz : csz cz = 2 := rfl
  have hm := csz_min (es.getD i cz)
  have ht := psz_le_take (es.set i cz) (trimN (es.set i cz) (es.set i cz).length)
  have hle := trimN_le (es.set i cz) (es.set i cz).length
  have hl : (es.set i cz).length = es.length := List.length_set ..
  have hall : (es.set i cz).all cmay = true := all_set h2 (by rfl)
  refine ⟨?_, ?_, by unfold trim; omega, ?_⟩
  · unfold trim; rw [List.length_take]; omega
  · rw [List.all_eq_true] at hall ⊢
    intro x hx
    exact hall x (List.mem_of_mem_take hx)
  · unfold stand
    rw [if_pos rfl, lastU_iff]
    unfold trim
    rw [List.length_take]
    rcases trimN_last (es.set i cz) (es.set i cz).length with h5 | h5
    · left; omega
    · rcases Nat.eq_zero_or_pos (trimN (es.set i cz) (es.set i cz).length) with h6 | h6
      · left; omega
      · right
        rw [show min (trimN (es.set i cz) (es.set i cz).length) (es.set i cz).length = trimN (es.set i cz) (es.set i cz).length by omega, getD_take (by omega)]
        exact h5
theorem getD_cut {es : List CE} {i j : Nat} (hi : i < es.length) : (es.take i ++ es.drop (i + 1)).getD j cz = if j < i then es.getD j cz else es.getD (j + 1) cz := by
  have hl : (es.take i).length = i := by rw [List.length_take]; omega
  simp only [List.getD]
  split
  · rename_i h
    rw [List.getElem?_append_left (by omega), List.getElem?_take, if_pos h]
  · rename_i h
    rw [List.getElem?_append_right (by omega), hl, List.getElem?_drop, show i + 1 + (j - i) = j + 1 by omega]
theorem len_cut {es : List CE} {i : Nat} (hi : i < es.length) : (es.take i ++ es.drop (i + 1)).length + 1 = es.length := by
  rw [List.length_append, List.length_take, List.length_drop]
  omega
theorem rise_of {es : List CE} (h : ∀ i, i < es.length → (es.getD i cz).u = true ∧ (0 < i → ltb (es.getD (i - 1) cz).d (es.getD i cz).d = true)) : rise 0 es = true := by
  unfold rise
  rw [all_rng]
  intro i hi
  obtain ⟨a, b⟩ := h i hi
  unfold okAt
  simp only [ent_zero, Bool.and_eq_true, Bool.or_eq_true, beq_iff_eq]
  refine ⟨a, ?_⟩
  rcases Nat.eq_zero_or_pos i with h0 | h0
  · exact Or.inl h0
  · exact Or.inr (b h0)
theorem may_cut {es : List CE} (h : may 2 es = true) {i : Nat} (hi : i < es.length) : may 2 (es.take i ++ es.drop (i + 1)) = true := by
  have hr := may_rise h rfl
  rw [may_iff] at h ⊢
  obtain ⟨h1, h2, h3, h4⟩ := h
  have hl := len_cut hi
  refine ⟨by omega, ?_, ?_, ?_⟩
  · rw [List.all_eq_true] at h2 ⊢
    intro x hx
    rcases List.mem_append.1 hx with hx | hx
    · exact h2 x (List.mem_of_mem_take hx)
    · exact h2 x (List.mem_of_mem_drop hx)
  · have e : (es.map csz).sum = ((es.take i).map csz).sum + ((es.drop i).map csz).sum := by
      rw [← List.sum_append, ← List.map_append, List.take_append_drop]
    have e2 : ((es.drop i).map csz).sum = csz es[i] + ((es.drop (i + 1)).map csz).sum := by
      rw [List.drop_eq_getElem_cons hi, List.map_cons, List.sum_cons]
    unfold psz at h3 ⊢
    rw [List.map_append, List.sum_append]
    omega
  · unfold stand
    rw [if_neg (by decide), if_neg (by decide), if_pos rfl]
    refine rise_of fun j hj => ?_
    rw [getD_cut hi, getD_cut hi]
    by_cases h5 : j < i
    · rw [if_pos h5, if_pos (by omega)]
      exact rise_at hr (by omega)
    · rw [if_neg h5]
      refine ⟨(rise_at hr (by omega)).1, fun h0 => ?_⟩
      split
      · exact rise_lt hr (by omega) (by omega)
      · exact rise_lt hr (by omega) (by omega)
/-- what an operation leaves may be, and is one cell longer at most -/
theorem do_may {k : Int} {es es1 : List CE} {ok os : Int} {ot m : Nat} {od : List Nat} (h : DoM k es ok os ot m od = (0, es1)) (hm : od.length = m) : may k es1 = true ∧ es1.length ≤ es.length + 1 := by
  obtain ⟨hmay, hright, hdo⟩ := DoM_parts h
  have hk := (right_parts hright).1
  obtain ⟨r1, r2, r3, r4, r5⟩ := right_parts2 hright
  unfold doM at hdo
  split at hdo
  · rename_i h1
    have hmm : 1 ≤ od.length ∧ od.length ≤ 180 := by
      rcases hk with h | h
      · have := r4 h h1; omega
      · have := r3 h; omega
    refine ⟨(put_undone hk hmay hdo hmm.1 hmm.2).1, ?_⟩
    obtain ⟨i, _, hi, _, _, he⟩ := putM_parts hdo
    rw [he]
    unfold insM
    split
    · rw [List.length_set]; omega
    · rw [len_ins hi]; omega
  · split at hdo
    · obtain ⟨hth, he⟩ := kill_parts hdo
      obtain ⟨i, ei, hi, hu, _, _⟩ := there_used hk hmay hth
      rw [ei] at he
      simp only [Int.toNat_natCast] at he
      rw [he]
      exact ⟨may_kill hk hmay hi hu ot, by rw [List.length_set]; omega⟩
    · split at hdo
      · obtain ⟨hth, he⟩ := wake_parts hdo
        obtain ⟨i, ei, hi, hu, _, _⟩ := there_used hk hmay hth
        rw [ei] at he
        simp only [Int.toNat_natCast] at he
        rw [he]
        exact ⟨may_kill hk hmay hi hu 0, by rw [List.length_set]; omega⟩
      · obtain ⟨hth, he⟩ := free_parts hdo
        obtain ⟨i, ei, hi, hu, _, _⟩ := there_used hk hmay hth
        rw [ei] at he
        simp only [Int.toNat_natCast] at he
        rw [he]
        rcases hk with rfl | rfl
        · rw [if_neg (by decide)]
          refine ⟨may_trim hmay hi, ?_⟩
          unfold trim
          rw [List.length_take, List.length_set]
          omega
        · rw [if_pos rfl]
          have := len_cut hi
          exact ⟨may_cut hmay hi, by omega⟩
end Go.Proofs.Ytajmpoanmdgmpaa
/-
  THE MATHEMATICS OF AN OPERATION: every other cell is as it was.
-/
namespace Go.Proofs.Ytajmpoanmdgmpaa

theorem getD_all {es : List CE} (h : es.all cmay = true) {j : Nat} (hj : j < es.length) : cmay (es.getD j cz) = true := by
  rw [getD_lt hj]; exact List.all_eq_true.1 h _ (List.getElem_mem hj)
theorem keep_heap {es es1 : List CE} {ok os : Int} {ot m : Nat} {od : List Nat} (h : DoM 1 es ok os ot m od = (0, es1)) {j : Nat} (hj : (j : Int) ≠ os) : es1.getD j cz = es.getD j cz := by
  obtain ⟨hmay, hright, hdo⟩ := DoM_parts h
  unfold doM at hdo
  split at hdo
  · obtain ⟨i, ei, hi, _, _, he⟩ := putM_parts hdo
    have hos : os = (i : Int) := by unfold place at ei; rw [if_pos rfl] at ei; exact ei
    rw [he]
    unfold insM
    split
    · rename_i h9
      rw [getD_set h9.2, if_neg (by omega)]
    · rename_i h9
      have hil : i = es.length := by
        rcases Nat.lt_or_ge i es.length with h' | h'
        · exact absurd ⟨rfl, h'⟩ h9
        · omega
      rw [getD_ins hi]
      split
      · rfl
      · rw [if_neg (by omega), getD_out (by omega), getD_out (by omega)]
  · split at hdo
    · obtain ⟨hth, he⟩ := kill_parts hdo
      obtain ⟨i, ei, hi, _, hos, _⟩ := there_used (Or.inl rfl) hmay hth
      rw [ei] at he
      simp only [Int.toNat_natCast] at he
      have := hos rfl
      rw [he, getD_set hi, if_neg (by omega)]
    · split at hdo
      · obtain ⟨hth, he⟩ := wake_parts hdo
        obtain ⟨i, ei, hi, _, hos, _⟩ := there_used (Or.inl rfl) hmay hth
        rw [ei] at he
        simp only [Int.toNat_natCast] at he
        have := hos rfl
        rw [he, getD_set hi, if_neg (by omega)]
      · obtain ⟨hth, he⟩ := free_parts hdo
        obtain ⟨i, ei, hi, _, hos, _⟩ := there_used (Or.inl rfl) hmay hth
        rw [ei, if_neg (by decide)] at he
        simp only [Int.toNat_natCast] at he
        have := hos rfl
        rw [he]
        have hg : (es.set i cz).getD j cz = es.getD j cz := by rw [getD_set hi, if_neg (by omega)]
        unfold trim
        rcases Nat.lt_or_ge j (trimN (es.set i cz) (es.set i cz).length) with h1 | h1
        · rw [getD_take h1, hg]
        · rw [getD_out (by rw [List.length_take]; omega)]
          rcases Nat.lt_or_ge j es.length with h2 | h2
          · have hu := trimN_above (es.set i cz) (es.set i cz).length j h1 (by rw [List.length_set]; exact h2)
            rw [hg] at hu
            exact (cmay_unused (getD_all (may_iff.1 hmay).2.1 h2) hu).symm
          · rw [getD_out h2]
def atE (es : List CE) (d : List Nat) : CE := (es.find? fun x => decide (x.d = d)).getD cz
theorem atC_e (l : List CV) (d : List Nat) : (atC l d).e = atE (l.map CV.e) d := by
  unfold atC atE
  rw [List.find?_map]
  have : ((fun x : CE => decide (x.d = d)) ∘ CV.e) = fun x : CV => decide (x.d = d) := rfl
  rw [this]
  cases l.find? fun x : CV => decide (x.d = d) <;> rfl
theorem find_ins {es : List CE} (i : Nat) {c : CE} {f : CE → Bool} (hc : f c = false) : (es.take i ++ c :: es.drop i).find? f = es.find? f := by
  rw [List.find?_append, List.find?_cons, hc]
  simp only
  rw [← List.find?_append, List.take_append_drop]
theorem find_cut {es : List CE} {i : Nat} (hi : i < es.length) {f : CE → Bool} (hc : f (es.getD i cz) = false) : (es.take i ++ es.drop (i + 1)).find? f = es.find? f := by
  conv => rhs; rw [← List.take_append_drop i es, List.drop_eq_getElem_cons hi]
  rw [getD_lt hi] at hc
  rw [List.find?_append, List.find?_append, List.find?_cons, hc]
theorem find_set {es : List CE} {i : Nat} (hi : i < es.length) {c : CE} {f : CE → Bool} (hc : f (es.getD i cz) = false) (hd : f c = false) : (es.set i c).find? f = es.find? f := by
  rw [List.set_eq_take_append_cons_drop, if_pos hi, ← find_cut hi hc, List.find?_append, List.find?_append, List.find?_cons, hd]
theorem atE_own {es : List CE} (hr : rise 0 es = true) {j : Nat} (hj : j < es.length) : atE es (es.getD j cz).d = es.getD j cz := by
  unfold atE
  have h1 : es = es.take j ++ es[j] :: es.drop (j + 1) := by rw [← List.drop_eq_getElem_cons hj, List.take_append_drop]
  have hn : (es.take j).find? (fun x => decide (x.d = (es.getD j cz).d)) = none := by
    rw [List.find?_eq_none]
    intro y hy
    obtain ⟨i, hi, rfl⟩ := List.mem_iff_getElem.1 hy
    rw [List.length_take] at hi
    have hlt := rise_lt hr (show i < j by omega) hj
    rw [getD_lt (show i < es.length by omega)] at hlt
    rw [List.getElem_take]
    intro he
    rw [decide_eq_true_eq] at he
    rw [he, ltb_irr] at hlt
    cases hlt
  generalize hd : (es.getD j cz).d = d at hn ⊢
  have hh : es.find? (fun x => decide (x.d = d)) = some es[j] := by
    refine (congrArg (List.find? fun x => decide (x.d = d)) h1).trans ?_
    rw [List.find?_append, hn, List.find?_cons]
    rw [getD_lt hj] at hd
    simp [hd]
  rw [hh, getD_lt hj]
  rfl
theorem keep_leaf {es es1 : List CE} {ok os : Int} {ot m : Nat} {od : List Nat} (hb : ∀ c ∈ es, ∀ x ∈ c.d, x < 256) (hd : ∀ x ∈ od, x < 256) (h : DoM 2 es ok os ot m od = (0, es1)) {j : Nat} (hj : j < es.length) (hne : (es.getD j cz).d ≠ od) : atE es1 (es.getD j cz).d = es.getD j cz := by
  obtain ⟨hmay, hright, hdo⟩ := DoM_parts h
  have hr := may_rise hmay rfl
  have hown := atE_own hr hj
  have hsd : ∀ i, i < es.length → seq (es.getD i cz).d od = true → (es.getD i cz).d = od := fun i hi hs => by
    rw [seq_iff (fun x hx => hb _ (by rw [getD_lt hi]; exact List.getElem_mem hi) x hx) hd, decide_eq_true_eq] at hs
    exact hs
  generalize hdd : (es.getD j cz).d = d at hne hown ⊢
  suffices hs : es1.find? (fun x => decide (x.d = d)) = es.find? (fun x => decide (x.d = d)) by
    unfold atE at hown ⊢
    rw [hs]
    exact hown
  unfold doM at hdo
  split at hdo
  · obtain ⟨i, ei, hi, _, _, he⟩ := putM_parts hdo
    rw [he]
    unfold insM
    rw [if_neg (by omega)]
    exact find_ins i (decide_eq_false (fun h => hne h.symm))
  · split at hdo
    · obtain ⟨hth, he⟩ := kill_parts hdo
      obtain ⟨i, ei, hi, _, _, hq⟩ := there_used (Or.inr rfl) hmay hth
      rw [ei] at he
      simp only [Int.toNat_natCast] at he
      have e9 := hsd i hi (hq rfl)
      rw [he]
      exact find_set hi (decide_eq_false (by rw [e9]; exact fun h => hne h.symm)) (decide_eq_false (by simp only; rw [e9]; exact fun h => hne h.symm))
    · split at hdo
      · obtain ⟨hth, he⟩ := wake_parts hdo
        obtain ⟨i, ei, hi, _, _, hq⟩ := there_used (Or.inr rfl) hmay hth
        rw [ei] at he
        simp only [Int.toNat_natCast] at he
        have e9 := hsd i hi (hq rfl)
        rw [he]
        exact find_set hi (decide_eq_false (by rw [e9]; exact fun h => hne h.symm)) (decide_eq_false (by simp only; rw [e9]; exact fun h => hne h.symm))
      · obtain ⟨hth, he⟩ := free_parts hdo
        obtain ⟨i, ei, hi, _, _, hq⟩ := there_used (Or.inr rfl) hmay hth
        rw [ei, if_pos rfl] at he
        simp only [Int.toNat_natCast] at he
        have e9 := hsd i hi (hq rfl)
        rw [he]
        exact find_cut hi (decide_eq_false (by rw [e9]; exact fun h => hne h.symm))
end Go.Proofs.Ytajmpoanmdgmpaa
/-
  THE WALK OF At (the document's).
-/
namespace Go.Proofs.Ytajmpoanmdgmpaa
open Go.RowKit

/-- the cell that is meant and in use, or -1 -/
def atI (k : Int) (es : List CE) (os : Int) (od : List Nat) : Int := if (place k es os od).2 then (place k es os od).1 else -1
def met (k : Int) (es : List CE) (os : Int) (od : List Nat) (i : Nat) : Bool := (es.getD i cz).u && (decide (k = 1) && decide ((i : Int) = os) || decide (k = 2) && seq (es.getD i cz).d od)
theorem atI_at {k : Int} {es : List CE} {os : Int} {od : List Nat} {i : Nat} (hr : k = 2 → rise 0 es = true) (hi : i < es.length) (h : met k es os od i = true) : atI k es os od = (i : Int) := by
  unfold met at h
  simp only [Bool.and_eq_true, Bool.or_eq_true, decide_eq_true_eq] at h
  obtain ⟨hu, ⟨rfl, hos⟩ | ⟨rfl, hs⟩⟩ := h
  · unfold atI
    rw [← hos, place_heap hi hu, if_pos rfl]
  · have hrr := hr rfl
    have hsq : u8l (es.getD i cz).d = u8l od := by unfold seq at hs; exact beq_iff_eq.1 hs
    have h1 : ltb (es.getD i cz).d od = false := by unfold ltb; rw [hsq]; exact bless_irr _
    have h2 : lbd es od = i := by
      rcases Nat.lt_trichotomy (lbd es od) i with h3 | h3 | h3
      · have h4 := rise_lt hrr h3 hi
        have h5 := lbd_at (es := es) (d := od) (by omega)
        unfold ltb at h4 h5
        rw [hsq] at h4
        rw [h4] at h5
        cases h5
      · exact h3
      · rw [lbd_below h3] at h1
        cases h1
    have h3 : isThere es od = true := by
      unfold isThere
      rw [h2, decide_eq_true hi, hs]
      rfl
    unfold atI place
    rw [if_neg (show ¬ ((2 : Int) = 1) by decide)]
    simp only [h3, if_true, h2]
theorem atI_no {k : Int} {es : List CE} {os : Int} {od : List Nat} (hk : k = 1 ∨ k = 2) (hr : k = 2 → rise 0 es = true) (h : ∀ i, i < es.length → met k es os od i = false) : atI k es os od = -1 := by
  have h2 : (place k es os od).2 = false := by
    rw [Bool.eq_false_iff]
    intro hp
    unfold place at hp
    rcases hk with rfl | rfl
    · rw [if_pos rfl] at hp
      simp only [Bool.and_eq_true, decide_eq_true_eq] at hp
      have h9 := h _ hp.2.1
      unfold met at h9
      rw [hp.2.2, decide_eq_true rfl, decide_eq_true (show ((os.toNat : Nat) : Int) = os by omega)] at h9
      simp at h9
    · rw [if_neg (show ¬ ((2 : Int) = 1) by decide)] at hp
      unfold isThere at hp
      simp only [Bool.and_eq_true, decide_eq_true_eq] at hp
      have h9 := h _ hp.1
      unfold met at h9
      rw [(rise_at (hr rfl) hp.1).1, hp.2] at h9
      simp at h9
  unfold atI
  rw [h2]
  rfl
theorem met_next {k : Int} {es : List CE} {os : Int} {od : List Nat} {q : Nat} (h : ∀ i, i < q → met k es os od i = false) (hq : met k es os od q = false) : ∀ i, i < q + 1 → met k es os od i = false := by
  intro i hi
  rcases Nat.lt_or_ge i q with h' | h'
  · exact h i h'
  · obtain rfl : i = q := by omega
    exact hq
attribute [local go_sem high] run_neqL run_eqL
set_option maxHeartbeats 4000000 in
set_option maxRecDepth 100000 in
theorem At_any (p : PV) (op : OV) (w : World) (h : p.In w All All) (hf : Few p) (ho : op.In w All) (hk : p.k = 1 ∨ p.k = 2) (hr : p.k = 2 → rise 0 p.es = true) :
    Calls Try.prog 62 #[p.agg, op.agg] w fun e w' => e = .returned (.int .i64 (atI p.k p.es op.s op.d)) ∧ Below w.heap.size w w' := by
  obtain ⟨W1, hW1, hBW1, hbx1, hsz1⟩ := box_page w p
  obtain ⟨W, hW, hBW2, hbx2, hsz2⟩ := box_op W1 op
  have hbx := hbx1.below hBW2 (by omega)
  have hBW : Below w.heap.size w W := hBW1.trans (hBW2.mono hBW1.size)
  have HP := Lib.hid (h.below hBW)
  have HOB : Hid (RB W All op.A op.m op.d) := Lib.hid (ho.below hBW).b
  have HBW := Lib.hid hBW
  have HBX := Lib.hid hbx
  have HBO := Lib.hid hbx2
  have HYES := Lib.hid (fun i (hi : i < p.es.length) hm => atI_at (os := op.s) (od := op.d) hr (i := i) hi hm)
  have HNO := Lib.hid (fun hm => atI_no (os := op.s) (od := op.d) hk hr hm)
  have HLEN : Hid (p.es.length = p.n) := Lib.hid h.len
  obtain ⟨y0, y1, y2, y3⟩ := pcs_cells hbx
  obtain ⟨t0, t1, t2, t3⟩ := ocs_cells hbx2
  obtain ⟨AI, hAI⟩ : ∃ AI, AI = atI p.k p.es op.s op.d := ⟨_, rfl⟩
  rw [← hAI] at HYES HNO ⊢
  have hn3 : p.n ≤ 300 := hf.n
  obtain ⟨pk, ps, px, A, n, c, l⟩ := p
  obtain ⟨ok, os, ot, oA, om, oc, od⟩ := op
  simp only at hW1 hW y0 y1 y2 y3 t0 t1 t2 t3 hn3 HLEN HYES HNO HOB hk
  simp only [PV.agg, OV.agg] at ⊢
  clear h hf ho hBW1 hBW2 hbx1 hbx2 hbx hBW hsz1 hsz2 hr hAI
  go_enter Try.func62, Try.ntmps62
  go_wp2_with fail
  go_loopw [5] (fun i wr => ∃ q : Nat, q ≤ n ∧ i = .int .i64 (q : Int) ∧ (∀ i, i < q → met pk (l.map CV.e) os od i = false) ∧ Fr W wr No) (fun i _ => n - (intOf i).toNat)
  case atStart => exact ⟨0, by omega, rfl, fun i hi => by omega, Fr.refl _ _⟩
  case round =>
    obtain ⟨q, hq, rfl, hall, hfr⟩ := hrel
    have HA := Lib.hid hall
    have HFR := Lib.hid hfr
    have hwk : IntKind.i64.wrap (q : Int) = (q : Int) := IntWalk.i64_in _ (by omega)
    obtain ⟨y0, y1, y2, y3⟩ := pcs_cells (HBX.out.keep hfr fun hn => hn)
    obtain ⟨t0, t1, t2, t3⟩ := ocs_cells (HBO.out.keep hfr fun hn => hn)
    simp only at y0 y1 y2 y3 t0 t1 t2 t3
    have hcb : ∀ q, (convert 32 9 (.slice oA om oc)).run Try.prog (wr.drewN q) = .ok (.string (strOf od)) (wr.drewN q) := fun q => run_conv All oA om oc od _ (HOB.out.keep (hfr.drewN q) fun _ _ hn => hn)
    clear hall hfr
    by_cases hlt : q < n
    · obtain ⟨g, o, x, rfl, hg, _, hx, hxi, b0, b1, b2⟩ := (HP.out.r.keep HFR.out (fun _ _ hn => hn) fun _ _ hn => hn).at_ hlt
      have HX := Lib.hid (getD_at (es_at hx))
      have hcx : ∀ q, (convert 32 9 (.slice x.A x.m x.c)).run Try.prog (wr.drewN q) = .ok (.string (strOf x.d)) (wr.drewN q) := fun q => run_conv All x.A x.m x.c x.d _ (hxi.b.keep ((Fr.refl wr No).drewN q) fun _ _ hn => hn)
      obtain ⟨u, kk, xA, m, xc, d⟩ := x
      simp only at b0 b1 b2 hcx
      have hWi : IntKind.i64.wrap ((q : Int) + 1) = ((q + 1 : Nat) : Int) := by rw [IntWalk.i64_in _ (by omega)]; omega
      have hin : ((q : Int) < (n : Int)) := by omega
      have HM : Hid (met pk (l.map CV.e) os od q = (u && (decide (pk = 1) && decide ((q : Int) = os) || decide (pk = 2) && seq d od))) := by unfold met; rw [HX.out]; exact Lib.hid rfl
      clear hx hxi
      cases u with
      | false =>
        have HN2 := Lib.hid (met_next HA.out (HM.out.trans (by simp)))
        go_wp2_with fail
        go_quiet (fail)
        go_wp2_with fail
        go_roundw
        case rel => exact ⟨q + 1, by omega, by go_num, HN2.out, HFR.out.drewN _⟩
        case measure => simp [intOf]; omega
      | true =>
        rcases hk with rfl | rfl
        · by_cases q3 : (q : Int) = os
          · have z3 : ((q : Int) == os) = true := by rw [beq_iff_eq]; exact q3
            have HN2 := Lib.hid (HYES.out q (by rw [HLEN.out]; exact hlt) (HM.out.trans (by simp [q3])))
            clear q3
            go_wp2_with fail
            go_quiet (fail)
            go_wp2_with fail
            go_ret
            exact ⟨by rw [HN2.out]; rfl, HBW.out.trans ((Fr.below (HFR.out.drewN _) (fun _ h => False.elim h) (Nat.le_refl _)).mono HBW.out.size)⟩
          · have z3 : ((q : Int) == os) = false := beq_false_of_ne q3
            have HN2 := Lib.hid (met_next HA.out (HM.out.trans (by simp [q3])))
            clear q3
            go_wp2_with fail
            go_quiet (fail)
            go_wp2_with fail
            go_roundw
            case rel => exact ⟨q + 1, by omega, by go_num, HN2.out, HFR.out.drewN _⟩
            case measure => simp [intOf]; omega
        · obtain ⟨sb, hsb⟩ : ∃ sb, seq d od = sb := ⟨_, rfl⟩
          cases sb with
          | true =>
            have HN2 := Lib.hid (HYES.out q (by rw [HLEN.out]; exact hlt) (HM.out.trans (by simp [hsb])))
            go_wp2_with fail
            go_quiet (fail)
            go_wp2_with fail
            go_ret
            exact ⟨by rw [HN2.out]; rfl, HBW.out.trans ((Fr.below (HFR.out.drewN _) (fun _ h => False.elim h) (Nat.le_refl _)).mono HBW.out.size)⟩
          | false =>
            have HN2 := Lib.hid (met_next HA.out (HM.out.trans (by simp [hsb])))
            go_wp2_with fail
            go_quiet (fail)
            go_wp2_with fail
            go_roundw
            case rel => exact ⟨q + 1, by omega, by go_num, HN2.out, HFR.out.drewN _⟩
            case measure => simp [intOf]; omega
    · have h1d : decide ((q : Int) < (n : Int)) = false := decide_eq_false (by omega)
      have h1d2 : decide (q < n) = false := decide_eq_false hlt
      have HN := Lib.hid (HNO.out (fun i hi => HA.out i (by have := HLEN.out; omega)))
      go_wp2
      go_ret
      exact ⟨by rw [HN.out]; rfl, HBW.out.trans ((Fr.below HFR.out (fun _ h => False.elim h) (Nat.le_refl _)).mono HBW.out.size)⟩
end Go.Proofs.Ytajmpoanmdgmpaa
/-
  THE WALK OF put (the document's).
-/
namespace Go.Proofs.Ytajmpoanmdgmpaa
open Go.RowKit

theorem store4 {G : World} {g : Nat} {t : TypeId} {a0 a1 a2 a3 : Value} (hb : Blk G g t #[a0, a1, a2, a3]) (b0 b1 b2 b3 : Value) :
    Blk ((((G.setCell ⟨g, 0, none⟩ b0).setCell ⟨g, 1, none⟩ b1).setCell ⟨g, 2, none⟩ b2).setCell ⟨g, 3, none⟩ b3) g t #[b0, b1, b2, b3] ∧ Fr G ((((G.setCell ⟨g, 0, none⟩ b0).setCell ⟨g, 1, none⟩ b1).setCell ⟨g, 2, none⟩ b2).setCell ⟨g, 3, none⟩ b3) (fun b => b = g) :=
  ⟨(((hb.set_ 0 _).set_ 1 _).set_ 2 _).set_ 3 _, fr_set (fr_set (fr_set (fr_set (Fr.refl _ _) _ _) _ _) _ _) _ _⟩
theorem blk4 {G : World} {g : Nat} {t : TypeId} {a0 a1 a2 a3 : Value} (hb : Blk G g t #[a0, a1, a2, a3]) : (G.cell? ⟨g, 0, none⟩ = some a0 ∧ G.cell? ⟨g, 1, none⟩ = some a1 ∧ G.cell? ⟨g, 2, none⟩ = some a2 ∧ G.cell? ⟨g, 3, none⟩ = some a3) ∧ G.frozen? ⟨g, 0, none⟩ = false ∧ G.frozen? ⟨g, 1, none⟩ = false ∧ G.frozen? ⟨g, 2, none⟩ = false ∧ G.frozen? ⟨g, 3, none⟩ = false := by
  have h0 := hb.cell 0
  have h1 := hb.cell 1
  have h2 := hb.cell 2
  have h3 := hb.cell 3
  simp only [List.getElem?_toArray, List.getElem?_cons_zero, List.getElem?_cons_succ] at h0 h1 h2 h3
  exact ⟨⟨h0, h1, h2, h3⟩, hb.frozen 0, hb.frozen 1, hb.frozen 2, hb.frozen 3⟩
theorem run_gtrs (a b : List Nat) : binOp .gtr 9 (.string (strOf a)) (.string (strOf b)) = pure (.bool (ltb b a)) := by
  rw [binOp_string_gtr, strOf_toList, strOf_toList]
  have h : (!(Op.bytesLess (u8l a) (u8l b) || u8l a == u8l b)) = ltb b a := by
    show (!(ltb a b || seq a b)) = ltb b a
    cases h1 : ltb a b with
    | true =>
      cases h2 : ltb b a with
      | true => have := ltb_trans h1 h2; rw [ltb_irr] at this; cases this
      | false => rfl
    | false =>
      cases h2 : seq a b with
      | true =>
        have h3 : u8l a = u8l b := by unfold seq at h2; exact beq_iff_eq.1 h2
        have h4 : ltb b a = false := by unfold ltb; rw [h3]; exact bless_irr _
        rw [h4]; rfl
      | false => rw [ltb_tri h1 h2]; rfl
  rw [h]
/-- what the document's put comes to -/
def PutDO (w : World) (S T : Nat → Prop) (p : PV) (r : Int × List CE) (e : Ending) (w' : World) : Prop :=
  ∃ q S' T', e = .returned (.tuple #[q.agg, .int .i64 r.1]) ∧ PO w' S' T' q ∧ (∀ b, S' b → S b ∨ w.heap.size ≤ b) ∧ (∀ b, T' b → T b ∨ w.heap.size ≤ b) ∧ Fr w w' S ∧ (r.1 = 0 → q.es = r.2 ∧ q.k = p.k ∧ q.s = p.s ∧ q.x = p.x) ∧ (r.1 ≠ 0 → q = PV.zero)
theorem PutDO.no {w w' : World} {S T : Nat → Prop} {p : PV} {c : Int} (hc : c ≠ 0) (h : Fr w w' S) : PutDO w S T p (c, []) (.returned (.tuple #[PV.zero.agg, .int .i64 c])) w' :=
  ⟨PV.zero, fun b => w.heap.size ≤ b, fun b => w.heap.size ≤ b, rfl, PO.zero _ _ _, fun _ h => Or.inr h, fun _ h => Or.inr h, h, fun h => absurd h hc, fun _ => rfl⟩
/-- the row while the new cell comes to its place L -/
def insQ (es : List CE) (L : Nat) (od : List Nat) (q : Nat) : List CE := if L < q then es.take L ++ ⟨true, 0, od⟩ :: (es.take q).drop L else es.take q
theorem insQ_lt {es : List CE} {L q : Nat} {od : List Nat} {x : CE} (hx : es[q]? = some x) (h : q < L) : insQ es L od (q + 1) = insQ es L od q ++ [x] := by
  have hq : q < es.length := by
    rcases Nat.lt_or_ge q es.length with h' | h'
    · exact h'
    · rw [List.getElem?_eq_none h'] at hx; cases hx
  have e : es[q] = x := by rw [List.getElem?_eq_getElem hq] at hx; injection hx
  unfold insQ
  rw [if_neg (by omega), if_neg (by omega), List.take_succ_eq_append_getElem hq, e]
theorem insQ_eq {es : List CE} {q : Nat} {od : List Nat} {x : CE} (hx : es[q]? = some x) : insQ es q od (q + 1) = insQ es q od q ++ [⟨true, 0, od⟩] ++ [x] := by
  have hq : q < es.length := by
    rcases Nat.lt_or_ge q es.length with h' | h'
    · exact h'
    · rw [List.getElem?_eq_none h'] at hx; cases hx
  have e : es[q] = x := by rw [List.getElem?_eq_getElem hq] at hx; injection hx
  unfold insQ
  rw [if_pos (by omega), if_neg (by omega), List.take_succ_eq_append_getElem hq, e, List.drop_left' (by rw [List.length_take]; omega)]
  simp
theorem insQ_gt {es : List CE} {L q : Nat} {od : List Nat} {x : CE} (hx : es[q]? = some x) (h : L < q) : insQ es L od (q + 1) = insQ es L od q ++ [x] := by
  have hq : q < es.length := by
    rcases Nat.lt_or_ge q es.length with h' | h'
    · exact h'
    · rw [List.getElem?_eq_none h'] at hx; cases hx
  have e : es[q] = x := by rw [List.getElem?_eq_getElem hq] at hx; injection hx
  unfold insQ
  rw [if_pos (by omega), if_pos h, List.take_succ_eq_append_getElem hq, e, List.drop_append_of_le_length (by rw [List.length_take]; omega)]
  simp
theorem insQ_end {es : List CE} {L : Nat} {od : List Nat} (h : L < es.length) : insQ es L od es.length = es.take L ++ ⟨true, 0, od⟩ :: es.drop L := by
  unfold insQ
  rw [if_pos h, List.take_length]
theorem insQ_all {es : List CE} {od : List Nat} : insQ es es.length od es.length ++ [⟨true, 0, od⟩] = es.take es.length ++ ⟨true, 0, od⟩ :: es.drop es.length := by
  unfold insQ
  rw [if_neg (by omega)]
  simp
theorem gt_below {es : List CE} {d : List Nat} {k : Nat} (hk : k < lbd es d) : ltb d (es.getD k cz).d = false := by
  rw [Bool.eq_false_iff]
  intro h
  have := ltb_trans h (lbd_below hk)
  rw [ltb_irr] at this
  cases this
theorem gt_at {es : List CE} {d : List Nat} (hk : lbd es d < es.length) (hn : isThere es d = false) : ltb d (es.getD (lbd es d) cz).d = true := by
  have h1 : seq (es.getD (lbd es d) cz).d d = false := by
    unfold isThere at hn
    rw [decide_eq_true hk, Bool.true_and] at hn
    exact hn
  exact ltb_tri (lbd_at hk) h1
theorem OwC.back {w' : World} {T1 : Nat → Prop} {B z : Nat} {v : Value} {n : Nat} {l : List CV} (h : OwC w' (fun b => B ≤ b ∨ z ≤ b) (fun b => T1 b ∧ b < z) v n l) (hz : B ≤ z) (hT : ∀ b, T1 b → b < B) : OwC w' (fun b => B ≤ b) T1 v n l :=
  ⟨h.1, fun y hy => (h.2.1 y hy).mono fun b _ hb => hb.1, fun k hk => (h.2.2.1 k hk).elim id fun h => Nat.le_trans hz h, fun k hk hb => by
    have h1 : B ≤ k := (h.2.2.1 k hk).elim id fun h => Nat.le_trans hz h
    have := hT k hb
    omega⟩
/-- what the loop goes on with -/
def PL (W4 wr : World) (T1 : Nat → Prop) (es : List CE) (L : Nat) (od : List Nat) (q : Nat) (v : Value) : Prop :=
  ∃ (cnt : Nat) (lk : List CV), OwC wr (fun b => W4.heap.size ≤ b) T1 v cnt lk ∧ lk.map CV.e = insQ es L od q ∧ (∀ x ∈ lk, x.m ≤ 2000) ∧ ((L < q → cnt ≤ q + 1) ∧ (¬ L < q → cnt ≤ q)) ∧ Fr W4 wr No
attribute [local go_sem high] run_neqL run_eqL run_gtrs
/-- the row of a page's cells while it grows -/
def OwL (wr : World) (S T : Nat → Prop) (v : Value) (n : Nat) (es : List CE) : Prop := ∃ lk : List CV, OwC wr S T v n lk ∧ lk.map CV.e = es ∧ ∀ x ∈ lk, x.m ≤ 2000
set_option maxHeartbeats 20000000 in
set_option maxRecDepth 100000 in
theorem put_doc (w : World) (S T : Nat → Prop) (p : PV) (ho : PO w S T p) (hn : p.n ≤ 300) (hml : ∀ x ∈ p.l, x.m ≤ 2000) (hSb : ∀ b, S b → b < w.heap.size) (hTb : ∀ b, T b → b < w.heap.size) (op : OV) (hop : op.In w All) (hm : op.m ≤ 2000) (hk : p.k = 1 ∨ p.k = 2) (hr : p.k = 2 → rise 0 p.es = true) (hth : (place p.k p.es op.s op.d).2 = false) :
    Calls Try.prog 63 #[p.agg, op.agg] w (PutDO w S T p (putM p.k p.es (place p.k p.es op.s op.d).1 false op.d)) := by
  obtain ⟨R, hR⟩ : ∃ R, R = putM p.k p.es (place p.k p.es op.s op.d).1 false op.d := ⟨_, rfl⟩
  rw [← hR]
  have HR := Lib.hid hR
  clear hR
  obtain ⟨W1, hW1, hBW1, hbx1, hsz1⟩ := box_page w p
  obtain ⟨W2, hW2, hBW2, hbx2, hsz2⟩ := box_op W1 op
  obtain ⟨W, hW⟩ : ∃ W, W2.alloc (.cells #[.int .i64 0, .int .u64 0, .int .u32 0, .slice none 0 0] 26) = W := ⟨_, rfl⟩
  have hB3 : Below W2.heap.size W2 W := by rw [← hW]; exact (Below.refl _ _).alloc (Nat.le_refl _) _
  have hBW : Below w.heap.size w W := (hBW1.trans (hBW2.mono hBW1.size)).trans (hB3.mono (by omega))
  have hbx : Blk W w.heap.size 26 (pcs p) := (hbx1.below hBW2 (by omega)).below hB3 (by omega)
  have hbo : Blk W W1.heap.size 46 (ocs op) := hbx2.below hB3 (by omega)
  have hbr : Blk W W2.heap.size 26 #[.int .i64 0, .int .u64 0, .int .u32 0, .slice none 0 0] := by rw [← hW]; exact Blk.new W2 26 _
  have hsz : W.heap.size = w.heap.size + 3 := by rw [← hW]; simp; omega
  have HZ := Lib.hid (show W1.heap.size = w.heap.size + 1 ∧ W2.heap.size = w.heap.size + 2 ∧ W.heap.size = w.heap.size + 3 by omega)
  have HCO := Lib.hid (copy_any W All op.A op.m op.c op.d (hop.below hBW).b (by omega))
  have hdl : op.d.length = op.m := hop.b.len
  have hpl : p.l.length = p.n := ho.o.len
  have HK := Lib.hid (show -9223372036854775808 ≤ p.k ∧ p.k ≤ 9223372036854775807 ∧ p.s < 18446744073709551616 ∧ p.x < 4294967296 from ⟨ho.k1, ho.k2, ho.s, ho.x⟩)
  have HOB : Hid (RB W All op.A op.m op.d) := Lib.hid (hop.below hBW).b
  have HPO := Lib.hid (ho.o.below hBW)
  have HPI := Lib.hid (ho.In.below hBW)
  have HBX := Lib.hid hbx
  have HBO := Lib.hid hbo
  have HBR := Lib.hid hbr
  have HBW := Lib.hid hBW
  have HML := Lib.hid hml
  have HST := Lib.hid (show (∀ b, S b → b < w.heap.size) ∧ ∀ b, T b → b < w.heap.size from ⟨hSb, hTb⟩)
  have HRI := Lib.hid hr
  have HTH := Lib.hid hth
  obtain ⟨t0, t1, t2, t3⟩ := ocs_cells hbo
  obtain ⟨pk, ps, px, pA, n, pc, l⟩ := p
  obtain ⟨ok, os, ot, oA, om, oc, od⟩ := op
  simp only at hW1 hW2 t0 t1 t2 t3 hn hk hdl hpl hm
  simp only [PV.agg, OV.agg, PV.es] at HCO HRI HTH HR ⊢
  have HLL := Lib.hid (show l.length = n ∧ od.length = om from ⟨hpl, hdl⟩)
  clear ho hml hSb hTb hop hr hth hBW hbx hbo hbr hsz hBW1 hBW2 hB3 hbx1 hbx2 hsz1 hsz2 hdl hpl
  go_enter Try.func63, Try.ntmps63
  go_wp2_with fail
  with_reducible refine HCO.out.mono ?_
  rintro e wc ⟨v2, rfl, hnew, hb2⟩
  obtain ⟨A2, c2, rfl, hmc2, hnz2, hrb2⟩ := Ow.reads hnew
  have hdl : od.length = om := HLL.out.2
  rw [hdl] at hrb2 hmc2
  obtain ⟨W4, hW4⟩ : ∃ W4, wc.alloc (.cells #[.bool true, .int .u32 0, .slice A2 om c2] 58) = W4 := ⟨_, rfl⟩
  have hcb : Blk W4 wc.heap.size 58 #[.bool true, .int .u32 0, .slice A2 om c2] := by rw [← hW4]; exact Blk.new wc 58 _
  have hB4 : Below W.heap.size W W4 := by rw [← hW4]; exact hb2.alloc hb2.size _
  have hz4 : W4.heap.size = wc.heap.size + 1 := by rw [← hW4]; simp
  have hr4 : RB W4 (fun b => W.heap.size ≤ b ∧ b < wc.heap.size) A2 om od := by rw [← hW4]; exact (hrb2.mono (T := fun b => W.heap.size ≤ b ∧ b < wc.heap.size) fun b hlt hb => ⟨hb, hlt⟩).alloc _
  obtain ⟨T1, hT1⟩ : ∃ T1 : Nat → Prop, T1 = fun b => T b ∨ (W.heap.size ≤ b ∧ b < wc.heap.size) := ⟨_, rfl⟩
  have HZ4 := Lib.hid (show W.heap.size ≤ wc.heap.size ∧ W4.heap.size = wc.heap.size + 1 from ⟨hb2.size, hz4⟩)
  have HT1 := Lib.hid (show (∀ b, T b → T1 b) ∧ (∀ b, T1 b → b < wc.heap.size) ∧ (∀ b, T1 b → T b ∨ W.heap.size ≤ b) by
    rw [hT1]
    refine ⟨fun b h => Or.inl h, fun b h => ?_, fun b h => h.imp id And.left⟩
    rcases h with h | h
    · have := HST.out.2 b h; have := hb2.size; have := HZ.out; omega
    · exact h.2)
  have HXI : Hid (CV.In W4 T1 ⟨true, 0, A2, om, c2, od⟩) := Lib.hid ⟨hr4.mono fun b _ hb => by rw [hT1]; exact Or.inr hb, by simp only; omega, hmc2, by simp only; omega, hnz2⟩
  have HCB := Lib.hid hcb
  have HB4 := Lib.hid hB4
  have HF4 : Hid (Fr w W4 S) := Lib.hid (Fr.of_below (HBW.out.trans (hB4.mono HBW.out.size)) S)
  have HOW : Hid (OwC W4 S T1 (.slice pA n pc) n l) := Lib.hid ((HPO.out.below hB4).mono (fun b _ hb => hb) (fun b _ hb => HT1.out.1 b hb) fun k hk hb => by
    rcases HT1.out.2.2 k hb with hb | hb
    · exact HPO.out.2.2.2 k hk hb
    · have := HST.out.1 k (HPO.out.2.2.1 k hk); have := HZ.out; omega)
  have HBX4 := Lib.hid (HBX.out.below hB4 (by have := HZ.out; omega))
  have HBR4 := Lib.hid (HBR.out.below hB4 (by have := HZ.out; omega))
  have HBO4 := Lib.hid (HBO.out.below hB4 (by have := HZ.out; omega))
  obtain ⟨y0, y1, y2, y3⟩ := pcs_cells HBX4.out
  obtain ⟨t0, t1, t2, t3⟩ := ocs_cells HBO4.out
  have c0 := hcb.cell 0
  have c1' := hcb.cell 1
  have c2' := hcb.cell 2
  simp only [List.getElem?_toArray, List.getElem?_cons_zero, List.getElem?_cons_succ] at c0 c1' c2'
  simp only at y0 y1 y2 y3 t0 t1 t2 t3
  clear hnew hb2 hrb2 hcb hB4 hz4 hr4 hT1 hmc2 hnz2
  rcases hk with rfl | rfl
  · have hpl : (place 1 (l.map CV.e) os od).1 = os := by unfold place; rw [if_pos rfl]
    by_cases h0 : os < 0
    · have d0 : decide (os < 0) = true := decide_eq_true h0
      have HEQF : Hid (R = (2, [])) := Lib.hid (by
        rw [HR.out]
        unfold putM place
        rw [if_pos rfl, if_pos (by rw [List.length_map, HLL.out.1]; omega)])
      clear hpl h0
      have hst := store4 HBR4.out (.int .i64 0) (.int .u64 0) (.int .u32 0) (.slice none 0 0)
      obtain ⟨G, hG⟩ : ∃ G, ((((W4.setCell ⟨W2.heap.size, 0, none⟩ (.int .i64 0)).setCell ⟨W2.heap.size, 1, none⟩ (.int .u64 0)).setCell ⟨W2.heap.size, 2, none⟩ (.int .u32 0)).setCell ⟨W2.heap.size, 3, none⟩ (.slice none 0 0)) = G := ⟨_, rfl⟩
      rw [hG] at hst
      obtain ⟨⟨g0, g1, g2, g3⟩, _⟩ := blk4 hst.1
      have HFG := Lib.hid hst.2
      obtain ⟨⟨r0, r1, r2, r3⟩, rf0, rf1, rf2, rf3⟩ := blk4 HBR4.out
      clear hst
      go_wp2_with fail
      refine bodyPost_ret (v := .tuple #[PV.zero.agg, .int .i64 2]) (by simp [results, Try.results63, go_sem, g0, g1, g2, g3, PV.agg, PV.zero]) rfl ?_
      rw [HEQF.out]
      exact PutDO.no (c := 2) (by decide) (HF4.out.trans HFG.out fun b hb => Or.inr (by have := HZ.out; omega))
    · obtain ⟨s, hs⟩ := Int.eq_ofNat_of_zero_le (show 0 ≤ os by omega)
      subst hs
      have d0 : decide ((s : Int) < 0) = false := decide_eq_false (by omega)
      by_cases h1 : n < s
      · have d1 : decide ((s : Int) > (n : Int)) = true := decide_eq_true (by omega)
        have d1n : decide (n < s) = true := decide_eq_true h1
        have HEQF : Hid (R = (2, [])) := Lib.hid (by
          rw [HR.out]
          unfold putM place
          rw [if_pos rfl, if_pos (by rw [List.length_map, HLL.out.1]; omega)])
        clear hpl h0 h1
        have hst := store4 HBR4.out (.int .i64 0) (.int .u64 0) (.int .u32 0) (.slice none 0 0)
        obtain ⟨G, hG⟩ : ∃ G, ((((W4.setCell ⟨W2.heap.size, 0, none⟩ (.int .i64 0)).setCell ⟨W2.heap.size, 1, none⟩ (.int .u64 0)).setCell ⟨W2.heap.size, 2, none⟩ (.int .u32 0)).setCell ⟨W2.heap.size, 3, none⟩ (.slice none 0 0)) = G := ⟨_, rfl⟩
        rw [hG] at hst
        obtain ⟨⟨g0, g1, g2, g3⟩, _⟩ := blk4 hst.1
        have HFG := Lib.hid hst.2
        obtain ⟨⟨r0, r1, r2, r3⟩, rf0, rf1, rf2, rf3⟩ := blk4 HBR4.out
        clear hst
        go_wp2_with fail
        refine bodyPost_ret (v := .tuple #[PV.zero.agg, .int .i64 2]) (by simp [results, Try.results63, go_sem, g0, g1, g2, g3, PV.agg, PV.zero]) rfl ?_
        rw [HEQF.out]
        exact PutDO.no (c := 2) (by decide) (HF4.out.trans HFG.out fun b hb => Or.inr (by have := HZ.out; omega))
      · have d1 : decide ((s : Int) > (n : Int)) = false := decide_eq_false (by omega)
        have d1n : decide (n < s) = false := decide_eq_false h1
        have HPL := Lib.hid hpl
        by_cases h2 : s = n
        · have d2 : ((s : Int) == (n : Int)) = true := by rw [beq_iff_eq]; omega
          have HEND := Lib.hid h2
          clear h2 hpl h0 h1
          have HONE := Lib.hid (CR.one W4 All _ ⟨true, 0, A2, om, c2, od⟩ W4.heap.size rfl trivial HXI.out)
          have HOWN := Lib.hid (HOW.out.alloc (.cells #[.bool true, .int .u32 0, .slice A2 om c2] 58))
          simp only [Int.ofNat_zero] at HONE HOWN
          go_upto_region 20 with (at_builtin; go_must (refine wpList_appC rfl (.tmp 36) (.tmp 38) rfl _ n l rfl HOWN.out (some ⟨W4.heap.size, 0, none⟩) 1 1 [⟨true, 0, A2, om, c2, od⟩] rfl HONE.out (by omega) ?_); intro v1 w5 hown hgrow; have HO5 := Lib.hid hown; have HG5 := Lib.hid hgrow; obtain ⟨vA, vc, rfl, _⟩ := hown.reads (by omega); have hbk5 := (HBX4.out.alloc (.cells #[.bool true, .int .u32 0, .slice A2 om c2] 58)).grown hgrow (fun hk => by have h9 := HST.out.1 _ (HOWN.out.2.2.1 _ hk.symm); omega); have HBK5 := Lib.hid hbk5; obtain ⟨y0, y1, y2, y3⟩ := pcs_cells hbk5; have yf3 := hbk5.frozen 3; simp only at y0 y1 y2 y3; clear hown hgrow hbk5)
          obtain ⟨lk, hlk⟩ : ∃ lk, lk = (l ++ [⟨true, 0, A2, om, c2, od⟩]) := ⟨_, rfl⟩
          have HEQ : Hid (R = if full (lk.map CV.e) then (4, []) else (0, lk.map CV.e)) := Lib.hid (by
            have hE : insM 1 (l.map CV.e) s od = lk.map CV.e := by
              unfold insM
              have hsl : s = (l.map CV.e).length := by rw [List.length_map, HLL.out.1]; exact HEND.out
              rw [if_neg (by omega), hsl, List.take_length, List.drop_length, hlk, List.map_append]
              rfl
            rw [HR.out, HPL.out]
            unfold putM
            rw [if_neg (by rw [List.length_map, HLL.out.1]; have := HEND.out; omega), if_neg (by simp), show ((s : Int)).toNat = s by omega, hE])
          obtain ⟨WT, hWT⟩ : ∃ WT, w5.setCell ⟨w.heap.size, 3, none⟩ (.slice vA (n + 1) vc) = WT := ⟨_, rfl⟩
          obtain ⟨S2, hS2⟩ : ∃ S2 : Nat → Prop, S2 = fun b => S b ∨ (W4.alloc (.cells #[.bool true, .int .u32 0, .slice A2 om c2] 58)).heap.size ≤ b := ⟨_, rfl⟩
          have hz6 : (W4.alloc (.cells #[.bool true, .int .u32 0, .slice A2 om c2] 58)).heap.size = W4.heap.size + 1 := by simp
          have hS2f : ∀ b, S2 b → b ≠ W2.heap.size ∧ b ≠ w.heap.size ∧ (S b ∨ w.heap.size ≤ b) := fun b hb => by
            rw [hS2] at hb
            have := HZ.out; have := HZ4.out
            rcases hb with hb | hb
            · have := HST.out.1 b hb; exact ⟨by omega, by omega, Or.inl hb⟩
            · exact ⟨by omega, by omega, Or.inr (by omega)⟩
          have hT2f : ∀ b, T1 b → b ≠ W2.heap.size ∧ b ≠ w.heap.size ∧ (T b ∨ w.heap.size ≤ b) := fun b hb => by
            have := HZ.out
            rcases HT1.out.2.2 b hb with hb | hb
            · have := HST.out.2 b hb; exact ⟨by omega, by omega, Or.inl hb⟩
            · exact ⟨by omega, by omega, Or.inr (by omega)⟩
          have hfT : Fr w5 WT (fun b => b = w.heap.size) := by rw [← hWT]; exact fr_set (Fr.refl _ _) _ _
          have HBXT : Hid (Blk WT w.heap.size 26 (pcs ⟨1, ps, px, vA, (n + 1), vc, lk⟩)) := Lib.hid (by rw [← hWT]; exact HBK5.out.set_ 3 _)
          have hf5 : Fr W4 w5 S2 := (((Fr.refl W4 S2).alloc _).grown HG5.out fun k hk => Or.inl (by rw [hS2]; exact Or.inl (HOWN.out.2.2.1 k hk)))
          have HFT : Hid (Fr w WT S) := Lib.hid ((HF4.out.trans hf5 fun b hb => (hS2f b hb).2.2).trans hfT fun b hb => Or.inr (by omega))
          have HBRT := Lib.hid ((HBR4.out.keep hf5 fun hb => (hS2f _ hb).1 rfl).keep hfT (show ¬ (W2.heap.size = w.heap.size) by have := HZ.out; omega))
          have HOLT : Hid (OwC WT S2 T1 (.slice vA (n + 1) vc) (n + 1) lk ∧ (∀ b, S2 b → S b ∨ w.heap.size ≤ b) ∧ (∀ b, T1 b → T b ∨ w.heap.size ≤ b) ∧ ∀ x ∈ lk, x.m ≤ 2000) := Lib.hid ⟨by
            rw [hlk]
            have h9 := HO5.out.keep hfT (fun b hb e => (hS2f b (by rw [hS2]; exact hb)).2.1 e) (fun b hb e => (hT2f b hb.1).2.1 e)
            refine ⟨h9.1, fun x hx => (h9.2.1 x hx).mono fun b _ hb => hb.1, fun k hk => by rw [hS2]; exact h9.2.2.1 k hk, fun k hk hb => ?_⟩
            have h7 := HT1.out.2.1 k hb
            have h8 := HZ4.out
            exact h9.2.2.2 k hk ⟨hb, by omega⟩, fun b hb => (hS2f b hb).2.2, fun b hb => (hT2f b hb).2.2, fun x hx => by
              rw [hlk] at hx
              rcases List.mem_append.1 hx with hx | hx
              · exact HML.out x hx
              · rw [List.mem_singleton] at hx; subst hx; exact hm⟩
          have HG2 := Lib.hid (fun k hk => (hS2f k hk).1)
          have HT2 := Lib.hid (fun k hk => (hT2f k hk).1)
          clear hlk hS2 hz6 hS2f hT2f hfT hf5
          obtain ⟨M, hM⟩ : ∃ M, M = (n + 1) := ⟨_, rfl⟩
          rw [← hM] at HBXT HOLT hWT
          have hM3 : M ≤ 301 := by omega
          rw [← hM]
          clear hM
          have HQI : Hid (PV.In WT All All ⟨1, ps, px, vA, M, vc, lk⟩) := Lib.hid (PO.In (p := ⟨1, ps, px, vA, M, vc, lk⟩) ⟨HOLT.out.1, by show M ≤ _; omega, HK.out.1, HK.out.2.1, HK.out.2.2.1, HK.out.2.2.2⟩).all
          have HRS := Lib.hid (rsize_any ⟨1, ps, px, vA, M, vc, lk⟩ WT HQI.out (fun x hx => by have := HOLT.out.2.2.2 x hx; omega) (by show M ≤ _; omega))
          simp only [PV.agg] at HRS
          obtain ⟨y0, y1, y2, y3⟩ := pcs_cells HBXT.out
          simp only at y0 y1 y2 y3
          obtain ⟨Z, hZ⟩ : ∃ Z, Z = psz (lk.map CV.e) := ⟨_, rfl⟩
          have HZE := Lib.hid hZ
          rw [show psz (PV.es ⟨1, ps, px, vA, M, vc, lk⟩) = Z from hZ.symm] at HRS
          clear hZ
          have hlm : lk.length = M := HOLT.out.1.len
          have HLM := Lib.hid hlm
          clear hlm
          by_cases h60 : 60 < M
          · have d60 : decide ((M : Int) > 60) = true := decide_eq_true (by omega)
            have d60n : decide (60 < M) = true := decide_eq_true h60
            have HEQF : Hid (R = (4, [])) := Lib.hid (by rw [HEQ.out, if_pos (by unfold full; rw [List.length_map, HLM.out, decide_eq_true h60]; rfl)])
            clear h60
            have hst := store4 HBRT.out (.int .i64 0) (.int .u64 0) (.int .u32 0) (.slice none 0 0)
            obtain ⟨G, hG⟩ : ∃ G, ((((WT.setCell ⟨W2.heap.size, 0, none⟩ (.int .i64 0)).setCell ⟨W2.heap.size, 1, none⟩ (.int .u64 0)).setCell ⟨W2.heap.size, 2, none⟩ (.int .u32 0)).setCell ⟨W2.heap.size, 3, none⟩ (.slice none 0 0)) = G := ⟨_, rfl⟩
            rw [hG] at hst
            obtain ⟨⟨g0, g1, g2, g3⟩, _⟩ := blk4 hst.1
            have HFG := Lib.hid hst.2
            obtain ⟨⟨r0, r1, r2, r3⟩, rf0, rf1, rf2, rf3⟩ := blk4 HBRT.out
            clear hst
            go_wp2_with fail
            refine bodyPost_ret (v := .tuple #[PV.zero.agg, .int .i64 4]) (by simp [results, Try.results63, go_sem, g0, g1, g2, g3, PV.agg, PV.zero]) rfl ?_
            rw [HEQF.out]
            exact PutDO.no (c := 4) (by decide) (HFT.out.trans HFG.out fun b hb => Or.inr (by have := HZ.out; omega))
          · have d60 : decide ((M : Int) > 60) = false := decide_eq_false (by omega)
            have d60n : decide (60 < M) = false := decide_eq_false h60
            go_wp2_with fail
            with_reducible refine HRS.out.mono ?_
            rintro e ws ⟨rfl, hbs⟩
            have HBS := Lib.hid hbs
            have HFS := Lib.hid (HFT.out.trans (Fr.of_below hbs No) fun _ hn => hn.elim)
            have HBRS := Lib.hid (HBRT.out.keep (Fr.of_below hbs No) fun h => h)
            obtain ⟨y0, y1, y2, y3⟩ := pcs_cells (HBXT.out.keep (Fr.of_below hbs No) fun h => h)
            simp only at y0 y1 y2 y3
            clear hbs
            by_cases hzz : 512 < Z
            · have d51 : decide ((Z : Int) > 512) = true := decide_eq_true (by omega)
              have d51n : decide (512 < Z) = true := decide_eq_true hzz
              have HEQF : Hid (R = (4, [])) := Lib.hid (by rw [HEQ.out, if_pos (by unfold full; rw [← HZE.out, decide_eq_true hzz, Bool.or_true])])
              clear hzz
              have hst := store4 HBRS.out (.int .i64 0) (.int .u64 0) (.int .u32 0) (.slice none 0 0)
              obtain ⟨G, hG⟩ : ∃ G, ((((ws.setCell ⟨W2.heap.size, 0, none⟩ (.int .i64 0)).setCell ⟨W2.heap.size, 1, none⟩ (.int .u64 0)).setCell ⟨W2.heap.size, 2, none⟩ (.int .u32 0)).setCell ⟨W2.heap.size, 3, none⟩ (.slice none 0 0)) = G := ⟨_, rfl⟩
              rw [hG] at hst
              obtain ⟨⟨g0, g1, g2, g3⟩, _⟩ := blk4 hst.1
              have HFG := Lib.hid hst.2
              obtain ⟨⟨r0, r1, r2, r3⟩, rf0, rf1, rf2, rf3⟩ := blk4 HBRS.out
              clear hst
              go_wp2_with fail
              refine bodyPost_ret (v := .tuple #[PV.zero.agg, .int .i64 4]) (by simp [results, Try.results63, go_sem, g0, g1, g2, g3, PV.agg, PV.zero]) rfl ?_
              rw [HEQF.out]
              exact PutDO.no (c := 4) (by decide) (HFS.out.trans HFG.out fun b hb => Or.inr (by have := HZ.out; omega))
            · have d51 : decide ((Z : Int) > 512) = false := decide_eq_false (by omega)
              have d51n : decide (512 < Z) = false := decide_eq_false hzz
              have HEQF : Hid (R = (0, lk.map CV.e)) := Lib.hid (by rw [HEQ.out, if_neg (by unfold full; rw [← HZE.out, decide_eq_false hzz, List.length_map, HLM.out, decide_eq_false h60]; simp)])
              clear hzz
              have hst := store4 HBRS.out (.int .i64 1) (.int .u64 (ps : Int)) (.int .u32 (px : Int)) (.slice vA M vc)
              obtain ⟨G, hG⟩ : ∃ G, ((((ws.setCell ⟨W2.heap.size, 0, none⟩ (.int .i64 1)).setCell ⟨W2.heap.size, 1, none⟩ (.int .u64 (ps : Int))).setCell ⟨W2.heap.size, 2, none⟩ (.int .u32 (px : Int))).setCell ⟨W2.heap.size, 3, none⟩ (.slice vA M vc)) = G := ⟨_, rfl⟩
              rw [hG] at hst
              obtain ⟨⟨g0, g1, g2, g3⟩, _⟩ := blk4 hst.1
              have HFG := Lib.hid hst.2
              obtain ⟨⟨r0, r1, r2, r3⟩, rf0, rf1, rf2, rf3⟩ := blk4 HBRS.out
              clear hst
              go_wp2_with fail
              refine bodyPost_ret (v := .tuple #[.agg #[.int .i64 1, .int .u64 (ps : Int), .int .u32 (px : Int), .slice vA M vc], .int .i64 0]) (by simp [results, Try.results63, go_sem, g0, g1, g2, g3]) rfl ?_
              rw [HEQF.out]
              refine ⟨⟨1, ps, px, vA, M, vc, lk⟩, fun b => S2 b ∧ b < WT.heap.size ∧ b ≠ W2.heap.size, fun b => T1 b ∧ b < WT.heap.size ∧ b ≠ W2.heap.size, rfl, ⟨?_, by show M ≤ _; omega, HK.out.1, HK.out.2.1, HK.out.2.2.1, HK.out.2.2.2⟩, fun b hb => HOLT.out.2.1 b hb.1, fun b hb => HOLT.out.2.2.1 b hb.1, HFS.out.trans HFG.out fun b hb => Or.inr (by have := HZ.out; omega), fun _ => ⟨rfl, rfl, rfl, rfl⟩, fun h => absurd rfl h⟩
              have hown := HOLT.out.1
              have hgn := fun k (hk : Value.ownBlock (.slice vA M vc) = some k) => HG2.out k (hown.2.2.1 k hk)
              have hmo : OwC WT (fun b => S2 b ∧ b < WT.heap.size ∧ b ≠ W2.heap.size) (fun b => T1 b ∧ b < WT.heap.size ∧ b ≠ W2.heap.size) (.slice vA M vc) M lk := by
                refine ⟨hown.1, fun x hx => (hown.2.1 x hx).mono fun b hlt hb => ⟨hb, hlt, HT2.out b hb⟩, fun k hk => ⟨hown.2.2.1 k hk, (hown.1.lt k hk).2, hgn k hk⟩, fun k hk hb => hown.2.2.2 k hk hb.1⟩
              exact (hmo.below HBS.out).keep HFG.out (fun b hb e => hb.2.2 e) fun b hb e => hb.2.2 e
        · have d2 : ((s : Int) == (n : Int)) = false := beq_false_of_ne (by omega)
          have hsn : s < n := by omega
          have hsnI : (s : Int) < (n : Int) := by omega
          clear h2 hpl h0 h1
          obtain ⟨gr, cap, er, hrow, hSg, hTg⟩ := HOW.out.row (by omega)
          injection er with er1 _ er3
          subst er1 er3
          obtain ⟨gx, ox, xx, hA, hgx, _, hxx, hxi, b0, b1, b2⟩ := ((HPI.out.below HB4.out).r).at_ hsn
          injection hA with hA
          injection hA with e1 e2
          subst e1 e2
          rw [Nat.zero_add] at b0 b1 b2
          have hws : IntKind.i64.wrap (s : Int) = (s : Int) := IntWalk.i64_in _ (by omega)
          have hf0 := hrow.frozen (s * 3)
          have hf1 := hrow.frozen (s * 3 + 1)
          have hf2 := hrow.frozen (s * 3 + 2)
          obtain ⟨WT, hWT⟩ : ∃ WT, ((W4.setCell ⟨gr, s * 3, none⟩ (.bool true)).setCell ⟨gr, s * 3 + 1, none⟩ (.int .u32 0)).setCell ⟨gr, s * 3 + 2, none⟩ (.slice A2 om c2) = WT := ⟨_, rfl⟩
          obtain ⟨lk, hlk⟩ : ∃ lk, lk = l.set s ⟨true, 0, A2, om, c2, od⟩ := ⟨_, rfl⟩
          have hput := HOW.out.put3 hsn ⟨true, 0, A2, om, c2, od⟩ HXI.out (fun _ _ h => h) hTg
          simp only [Int.ofNat_zero] at hput
          rw [hWT, ← hlk] at hput
          have hfT : Fr W4 WT (fun b => b = gr) := by rw [← hWT]; exact fr_set (fr_set (fr_set (Fr.refl _ _) _ _) _ _) _ _
          have hgl := HST.out.1 _ hSg
          have HEQ : Hid (R = if full (lk.map CV.e) then (4, []) else (0, lk.map CV.e)) := Lib.hid (by
            have hE : insM 1 (l.map CV.e) s od = lk.map CV.e := by
              unfold insM
              rw [if_pos ⟨rfl, by rw [List.length_map, HLL.out.1]; exact hsn⟩, hlk, es_set]
              rfl
            rw [HR.out, HPL.out]
            unfold putM
            rw [if_neg (by rw [List.length_map, HLL.out.1]; omega), if_neg (by simp), show ((s : Int)).toNat = s by omega, hE])
          have HBXT : Hid (Blk WT w.heap.size 26 (pcs ⟨1, ps, px, some ⟨gr, 0, none⟩, n, pc, lk⟩)) := Lib.hid (HBX4.out.keep hfT (by omega))
          have HFT : Hid (Fr w WT S) := Lib.hid (HF4.out.trans hfT fun b hb => Or.inl (hb ▸ hSg))
          have HBRT := Lib.hid (HBR4.out.keep hfT (show ¬ (W2.heap.size = gr) by have := HZ.out; omega))
          have HOLT : Hid (OwC WT S T1 (.slice (some ⟨gr, 0, none⟩) n pc) n lk ∧ (∀ b, S b → S b ∨ w.heap.size ≤ b) ∧ (∀ b, T1 b → T b ∨ w.heap.size ≤ b) ∧ ∀ x ∈ lk, x.m ≤ 2000) := Lib.hid ⟨hput, fun b hb => Or.inl hb, fun b hb => (HT1.out.2.2 b hb).imp id fun h => by have := HZ.out; omega, fun x hx => by
              rw [hlk] at hx
              rcases List.mem_or_eq_of_mem_set hx with hx | rfl
              · exact HML.out x hx
              · exact hm⟩
          have HG2 := Lib.hid (fun k (hk : S k) => show k ≠ W2.heap.size by have := HST.out.1 k hk; have := HZ.out; omega)
          have HT2 := Lib.hid (fun k (hk : T1 k) => show k ≠ W2.heap.size by
            have := HZ.out
            rcases HT1.out.2.2 k hk with h | h
            · have := HST.out.2 k h; omega
            · omega)
          clear hrow hSg hTg hxx hxi hlk hput hfT hgl hgx
          go_upto_region 20 with fail
          have hn1 : n ≤ 301 := by omega
          have HQI : Hid (PV.In WT All All ⟨1, ps, px, (some ⟨gr, 0, none⟩), n, pc, lk⟩) := Lib.hid (PO.In (p := ⟨1, ps, px, (some ⟨gr, 0, none⟩), n, pc, lk⟩) ⟨HOLT.out.1, by show n ≤ _; omega, HK.out.1, HK.out.2.1, HK.out.2.2.1, HK.out.2.2.2⟩).all
          have HRS := Lib.hid (rsize_any ⟨1, ps, px, (some ⟨gr, 0, none⟩), n, pc, lk⟩ WT HQI.out (fun x hx => by have := HOLT.out.2.2.2 x hx; omega) (by show n ≤ _; omega))
          simp only [PV.agg] at HRS
          obtain ⟨y0, y1, y2, y3⟩ := pcs_cells HBXT.out
          simp only at y0 y1 y2 y3
          obtain ⟨Z, hZ⟩ : ∃ Z, Z = psz (lk.map CV.e) := ⟨_, rfl⟩
          have HZE := Lib.hid hZ
          rw [show psz (PV.es ⟨1, ps, px, (some ⟨gr, 0, none⟩), n, pc, lk⟩) = Z from hZ.symm] at HRS
          clear hZ
          have hlm : lk.length = n := HOLT.out.1.len
          have HLM := Lib.hid hlm
          clear hlm
          by_cases h60 : 60 < n
          · have d60 : decide ((n : Int) > 60) = true := decide_eq_true (by omega)
            have d60n : decide (60 < n) = true := decide_eq_true h60
            have HEQF : Hid (R = (4, [])) := Lib.hid (by rw [HEQ.out, if_pos (by unfold full; rw [List.length_map, HLM.out, decide_eq_true h60]; rfl)])
            clear h60
            have hst := store4 HBRT.out (.int .i64 0) (.int .u64 0) (.int .u32 0) (.slice none 0 0)
            obtain ⟨G, hG⟩ : ∃ G, ((((WT.setCell ⟨W2.heap.size, 0, none⟩ (.int .i64 0)).setCell ⟨W2.heap.size, 1, none⟩ (.int .u64 0)).setCell ⟨W2.heap.size, 2, none⟩ (.int .u32 0)).setCell ⟨W2.heap.size, 3, none⟩ (.slice none 0 0)) = G := ⟨_, rfl⟩
            rw [hG] at hst
            obtain ⟨⟨g0, g1, g2, g3⟩, _⟩ := blk4 hst.1
            have HFG := Lib.hid hst.2
            obtain ⟨⟨r0, r1, r2, r3⟩, rf0, rf1, rf2, rf3⟩ := blk4 HBRT.out
            clear hst
            go_wp2_with fail
            refine bodyPost_ret (v := .tuple #[PV.zero.agg, .int .i64 4]) (by simp [results, Try.results63, go_sem, g0, g1, g2, g3, PV.agg, PV.zero]) rfl ?_
            rw [HEQF.out]
            exact PutDO.no (c := 4) (by decide) (HFT.out.trans HFG.out fun b hb => Or.inr (by have := HZ.out; omega))
          · have d60 : decide ((n : Int) > 60) = false := decide_eq_false (by omega)
            have d60n : decide (60 < n) = false := decide_eq_false h60
            go_wp2_with fail
            with_reducible refine HRS.out.mono ?_
            rintro e ws ⟨rfl, hbs⟩
            have HBS := Lib.hid hbs
            have HFS := Lib.hid (HFT.out.trans (Fr.of_below hbs No) fun _ hn => hn.elim)
            have HBRS := Lib.hid (HBRT.out.keep (Fr.of_below hbs No) fun h => h)
            obtain ⟨y0, y1, y2, y3⟩ := pcs_cells (HBXT.out.keep (Fr.of_below hbs No) fun h => h)
            simp only at y0 y1 y2 y3
            clear hbs
            by_cases hzz : 512 < Z
            · have d51 : decide ((Z : Int) > 512) = true := decide_eq_true (by omega)
              have d51n : decide (512 < Z) = true := decide_eq_true hzz
              have HEQF : Hid (R = (4, [])) := Lib.hid (by rw [HEQ.out, if_pos (by unfold full; rw [← HZE.out, decide_eq_true hzz, Bool.or_true])])
              clear hzz
              have hst := store4 HBRS.out (.int .i64 0) (.int .u64 0) (.int .u32 0) (.slice none 0 0)
              obtain ⟨G, hG⟩ : ∃ G, ((((ws.setCell ⟨W2.heap.size, 0, none⟩ (.int .i64 0)).setCell ⟨W2.heap.size, 1, none⟩ (.int .u64 0)).setCell ⟨W2.heap.size, 2, none⟩ (.int .u32 0)).setCell ⟨W2.heap.size, 3, none⟩ (.slice none 0 0)) = G := ⟨_, rfl⟩
              rw [hG] at hst
              obtain ⟨⟨g0, g1, g2, g3⟩, _⟩ := blk4 hst.1
              have HFG := Lib.hid hst.2
              obtain ⟨⟨r0, r1, r2, r3⟩, rf0, rf1, rf2, rf3⟩ := blk4 HBRS.out
              clear hst
              go_wp2_with fail
              refine bodyPost_ret (v := .tuple #[PV.zero.agg, .int .i64 4]) (by simp [results, Try.results63, go_sem, g0, g1, g2, g3, PV.agg, PV.zero]) rfl ?_
              rw [HEQF.out]
              exact PutDO.no (c := 4) (by decide) (HFS.out.trans HFG.out fun b hb => Or.inr (by have := HZ.out; omega))
            · have d51 : decide ((Z : Int) > 512) = false := decide_eq_false (by omega)
              have d51n : decide (512 < Z) = false := decide_eq_false hzz
              have HEQF : Hid (R = (0, lk.map CV.e)) := Lib.hid (by rw [HEQ.out, if_neg (by unfold full; rw [← HZE.out, decide_eq_false hzz, List.length_map, HLM.out, decide_eq_false h60]; simp)])
              clear hzz
              have hst := store4 HBRS.out (.int .i64 1) (.int .u64 (ps : Int)) (.int .u32 (px : Int)) (.slice (some ⟨gr, 0, none⟩) n pc)
              obtain ⟨G, hG⟩ : ∃ G, ((((ws.setCell ⟨W2.heap.size, 0, none⟩ (.int .i64 1)).setCell ⟨W2.heap.size, 1, none⟩ (.int .u64 (ps : Int))).setCell ⟨W2.heap.size, 2, none⟩ (.int .u32 (px : Int))).setCell ⟨W2.heap.size, 3, none⟩ (.slice (some ⟨gr, 0, none⟩) n pc)) = G := ⟨_, rfl⟩
              rw [hG] at hst
              obtain ⟨⟨g0, g1, g2, g3⟩, _⟩ := blk4 hst.1
              have HFG := Lib.hid hst.2
              obtain ⟨⟨r0, r1, r2, r3⟩, rf0, rf1, rf2, rf3⟩ := blk4 HBRS.out
              clear hst
              go_wp2_with fail
              refine bodyPost_ret (v := .tuple #[.agg #[.int .i64 1, .int .u64 (ps : Int), .int .u32 (px : Int), .slice (some ⟨gr, 0, none⟩) n pc], .int .i64 0]) (by simp [results, Try.results63, go_sem, g0, g1, g2, g3]) rfl ?_
              rw [HEQF.out]
              refine ⟨⟨1, ps, px, (some ⟨gr, 0, none⟩), n, pc, lk⟩, fun b => S b ∧ b < WT.heap.size ∧ b ≠ W2.heap.size, fun b => T1 b ∧ b < WT.heap.size ∧ b ≠ W2.heap.size, rfl, ⟨?_, by show n ≤ _; omega, HK.out.1, HK.out.2.1, HK.out.2.2.1, HK.out.2.2.2⟩, fun b hb => HOLT.out.2.1 b hb.1, fun b hb => HOLT.out.2.2.1 b hb.1, HFS.out.trans HFG.out fun b hb => Or.inr (by have := HZ.out; omega), fun _ => ⟨rfl, rfl, rfl, rfl⟩, fun h => absurd rfl h⟩
              have hown := HOLT.out.1
              have hgn := fun k (hk : Value.ownBlock (.slice (some ⟨gr, 0, none⟩) n pc) = some k) => HG2.out k (hown.2.2.1 k hk)
              have hmo : OwC WT (fun b => S b ∧ b < WT.heap.size ∧ b ≠ W2.heap.size) (fun b => T1 b ∧ b < WT.heap.size ∧ b ≠ W2.heap.size) (.slice (some ⟨gr, 0, none⟩) n pc) n lk := by
                refine ⟨hown.1, fun x hx => (hown.2.1 x hx).mono fun b hlt hb => ⟨hb, hlt, HT2.out b hb⟩, fun k hk => ⟨hown.2.2.1 k hk, (hown.1.lt k hk).2, hgn k hk⟩, fun k hk hb => hown.2.2.2 k hk hb.1⟩
              exact (hmo.below HBS.out).keep HFG.out (fun b hb e => hb.2.2 e) fun b hb e => hb.2.2 e
  · obtain ⟨L, hL⟩ : ∃ L, L = lbd (l.map CV.e) od := ⟨_, rfl⟩
    have hpl : (place 2 (l.map CV.e) os od).1 = (L : Int) := by unfold place; rw [if_neg (show ¬ ((2 : Int) = 1) by decide), hL]
    have hthn : isThere (l.map CV.e) od = false := by have h9 := HTH.out; unfold place at h9; rw [if_neg (show ¬ ((2 : Int) = 1) by decide)] at h9; exact h9
    have hLn : L ≤ n := by rw [hL, ← HLL.out.1, ← List.length_map (f := CV.e)]; exact lbd_le _ _
    have HPL := Lib.hid hpl
    have HGB : Hid (∀ k, k < L → ltb od ((l.map CV.e).getD k cz).d = false) := Lib.hid (fun k hk => gt_below (by rw [← hL]; exact hk))
    have HGA : Hid (L < n → ltb od ((l.map CV.e).getD L cz).d = true) := Lib.hid (fun h => by rw [hL]; exact gt_at (by rw [← hL, List.length_map, HLL.out.1]; exact h) hthn)
    have HTB : Hid (∀ b, T1 b → b < W4.heap.size) := Lib.hid (fun b hb => by have := HT1.out.2.1 b hb; have := HZ4.out; omega)
    clear hpl hthn hL
    go_wp2_with fail
    go_loopw [7, 8, 9] (fun v b i wr => ∃ q : Nat, q ≤ n ∧ i = .int .i64 (q : Int) ∧ b = .bool (decide (L < q)) ∧ PL W4 wr T1 (l.map CV.e) L od q v) (fun _ _ i _ => n - (intOf i).toNat)
    case atStart => exact ⟨0, by omega, rfl, by simp, 0, [], OwC.nil_ _ _ _, by simp [insQ], by simp, ⟨by omega, by omega⟩, Fr.refl _ _⟩
    case round =>
      obtain ⟨q, hq, rfl, hb, cnt, lk, hown, hlk, hmm, hcn, hfr⟩ := hrel
      have hcnt : cnt ≤ q + 1 := by
        by_cases h : L < q
        · exact hcn.1 h
        · have := hcn.2 h; omega
      obtain ⟨vA, vc, rfl, _, _, _, _⟩ := hown.reads (by omega)
      have HCN := Lib.hid hcn
      have HOL := Lib.hid hown
      have HLK := Lib.hid hlk
      have HMM := Lib.hid hmm
      have HFR := Lib.hid hfr
      have HSW := Lib.hid hfr.size
      obtain ⟨y0, y1, y2, y3⟩ := pcs_cells (HBX4.out.keep hfr fun h => h)
      obtain ⟨t0, t1, t2, t3⟩ := ocs_cells (HBO4.out.keep hfr fun h => h)
      have hcbk := HCB.out.keep hfr fun h => h
      have c0 := hcbk.cell 0
      have c1' := hcbk.cell 1
      have c2' := hcbk.cell 2
      simp only [List.getElem?_toArray, List.getElem?_cons_zero, List.getElem?_cons_succ] at c0 c1' c2'
      simp only at y0 y1 y2 y3 t0 t1 t2 t3
      have hwk : IntKind.i64.wrap (q : Int) = (q : Int) := IntWalk.i64_in _ (by omega)
      clear hown hlk hmm hcbk hcn
      by_cases hlt : q < n
      · have hcv : ∀ z, (convert 32 9 (.slice oA om oc)).run Try.prog (wr.drewN z) = .ok (.string (strOf od)) (wr.drewN z) := fun z => run_conv All oA om oc od _ (((HOB.out.keep (Fr.of_below HB4.out No) fun _ _ hn => hn).keep hfr fun _ _ hn => hn).keep ((Fr.refl wr No).drewN z) fun _ _ hn => hn)
        obtain ⟨g, o, x, rfl, hg, _, hx, hxi, b0, b1, b2⟩ := ((HPI.out.below HB4.out).r.keep hfr (fun _ _ hn => hn) fun _ _ hn => hn).at_ hlt
        have HX := Lib.hid (es_at hx)
        have HXG := Lib.hid (getD_at (es_at hx))
        have hxm : x.m ≤ 2000 := HML.out x (List.mem_of_getElem? hx)
        have hcx : ∀ z, (convert 32 9 (.slice x.A x.m x.c)).run Try.prog (wr.drewN z) = .ok (.string (strOf x.d)) (wr.drewN z) := fun z => run_conv T x.A x.m x.c x.d _ (hxi.b.keep ((Fr.refl wr No).drewN z) fun _ _ hn => hn)
        have hx1 : x.In wr T1 := ((HOW.out.2.1 x (List.mem_of_getElem? hx)).keep hfr fun _ _ hn => hn)
        obtain ⟨u, kk, xA, m, xc, d⟩ := x
        have HXI1 := Lib.hid hx1
        have HMX : Hid (∀ y ∈ lk ++ [⟨u, kk, xA, m, xc, d⟩], y.m ≤ 2000) := Lib.hid (fun y hy => by
          rcases List.mem_append.1 hy with hy | hy
          · exact HMM.out y hy
          · rw [List.mem_singleton] at hy; subst hy; exact hxm)
        have HXL : Hid (∀ y, l[q]? = some y → y = ⟨u, kk, xA, m, xc, d⟩) := Lib.hid (fun y hy => by rw [hx] at hy; injection hy with hy; exact hy.symm)
        have hWi : IntKind.i64.wrap ((q : Int) + 1) = ((q + 1 : Nat) : Int) := by rw [IntWalk.i64_in _ (by omega)]; omega
        have hin : ((q : Int) < (n : Int)) := by omega
        simp only at b0 b1 b2 hcx
        have HONX : Hid (∀ z, CR ((wr.drewN z).alloc (.cells #[.bool u, .int .u32 (kk : Int), .slice xA m xc] 58)) All T1 (some ⟨wr.heap.size, 0, none⟩) 1 [⟨u, kk, xA, m, xc, d⟩]) := Lib.hid (fun z => CR.one (wr.drewN z) All T1 ⟨u, kk, xA, m, xc, d⟩ wr.heap.size rfl trivial (HXI1.out.keep ((Fr.refl wr No).drewN z) fun _ _ hn => hn))
        have HONC : Hid (∀ z, CR ((wr.drewN z).alloc (.cells #[.bool true, .int .u32 0, .slice A2 om c2] 58)) All T1 (some ⟨wr.heap.size, 0, none⟩) 1 [⟨true, 0, A2, om, c2, od⟩]) := Lib.hid (fun z => CR.one (wr.drewN z) All T1 ⟨true, 0, A2, om, c2, od⟩ wr.heap.size rfl trivial ((HXI.out.keep HFR.out fun _ _ hn => hn).keep ((Fr.refl wr No).drewN z) fun _ _ hn => hn))
        have HOWN : Hid (∀ z, OwC ((wr.drewN z).alloc (.cells #[.bool u, .int .u32 (kk : Int), .slice xA m xc] 58)) (fun b => W4.heap.size ≤ b) T1 (.slice vA cnt vc) cnt lk) := Lib.hid (fun z => (HOL.out.fr ((Fr.refl wr No).drewN z)).alloc _)
        have HOWC : Hid (∀ z, OwC ((wr.drewN z).alloc (.cells #[.bool true, .int .u32 0, .slice A2 om c2] 58)) (fun b => W4.heap.size ≤ b) T1 (.slice vA cnt vc) cnt lk) := Lib.hid (fun z => (HOL.out.fr ((Fr.refl wr No).drewN z)).alloc _)
        clear hx hxi hx1 hxm hfr
        by_cases hp : L < q
        · rw [decide_eq_true hp] at hb
          subst hb
          have HP1 := Lib.hid (decide_eq_true (show L < q + 1 by omega))
          have HPQ := Lib.hid hp
          clear hp
          go_wp2_with fail
          go_quiet (fail)
          go_wp2_with (at_builtin; go_must (refine wpList_appC rfl (.tmp 73) (.tmp 79) rfl _ cnt lk rfl (HOWN.out _) (some ⟨wr.heap.size, 0, none⟩) 1 1 [⟨u, kk, xA, m, xc, d⟩] rfl (HONX.out _) (by omega) ?_); intro v5 w5 hown hgrow; have HO5 := Lib.hid hown; have HG5 := Lib.hid hgrow; clear hown hgrow)
          go_roundw
          case rel =>
            refine ⟨q + 1, by omega, by go_num, by rw [HP1.out], cnt + 1, lk ++ [⟨u, kk, xA, m, xc, d⟩], HO5.out.back (by have := HSW.out; simp; omega) HTB.out, ?_, ?_, ⟨fun _ => by have := HCN.out.1 HPQ.out; omega, fun h => absurd (show L < q + 1 by have := HPQ.out; omega) h⟩, ?_⟩
            · rw [List.map_append, HLK.out]
              exact (insQ_gt HX.out HPQ.out).symm
            · exact HMX.out
            · exact (((HFR.out.drewN _).alloc _).grown HG5.out fun k hk => Or.inr (HOL.out.2.2.1 k hk))
          case measure => simp [intOf]; omega
        · rw [decide_eq_false hp] at hb
          subst hb
          by_cases hql : q = L
          · subst hql
            have hgt : ltb od d = true := by have h9 := HGA.out hlt; rw [HXG.out] at h9; exact h9
            have HP1 := Lib.hid (decide_eq_true (show q < q + 1 by omega))
            clear hp
            go_wp2_with fail
            go_quiet (fail)
            go_wp2_with (at_builtin; go_must (refine wpList_appC rfl (.tmp 69) (.tmp 71) rfl _ cnt lk rfl (HOWC.out _) (some ⟨wr.heap.size, 0, none⟩) 1 1 [⟨true, 0, A2, om, c2, od⟩] rfl (HONC.out _) (by omega) ?_); intro v4 w4 hown hgrow; have HO4 := Lib.hid hown; have HG4 := Lib.hid hgrow; clear hown hgrow; have hO4 := HO4.out.back (by have := HSW.out; simp; omega) HTB.out; have hfr4 := ((((Fr.refl wr (fun b => W4.heap.size ≤ b)).drewN _).alloc _).grown HG4.out fun k hk => Or.inl (HOL.out.2.2.1 k hk)); have HFR4 := Lib.hid hfr4; obtain ⟨vA4, vc4, rfl, _⟩ := hO4.reads (by omega); have hcr4 := (HPI.out.below HB4.out).r; obtain ⟨y0, y1, y2, y3⟩ := pcs_cells (((HBX4.out.keep HFR.out fun h => h)).keep hfr4 (by have := HZ.out; have := HZ4.out; omega)); simp only at y0 y1 y2 y3; have hbel4 : Fr W4 w4 No := (HFR.out.trans hfr4 fun b hb => Or.inr hb); have HFW4 := Lib.hid hbel4; obtain ⟨g4, o4, x4, e4, _, _, hx4, _, b0, b1, b2⟩ := (hcr4.keep hbel4 (fun _ _ hn => hn) fun _ _ hn => hn).at_ hlt; injection e4 with e4; injection e4 with e41 e42; subst e41 e42; have hxx4 : x4 = ⟨u, kk, xA, m, xc, d⟩ := HXL.out x4 hx4; subst hxx4; simp only at b0 b1 b2; have HOWN4 := Lib.hid (hO4.alloc (.cells #[.bool u, .int .u32 (kk : Int), .slice xA m xc] 58)); have HONX4 := Lib.hid (CR.one w4 All T1 ⟨u, kk, xA, m, xc, d⟩ w4.heap.size rfl trivial ((HOW.out.2.1 _ (List.mem_of_getElem? hx4)).keep hbel4 fun _ _ hn => hn)); clear hO4 hfr4 hcr4 hbel4 hx4; go_wp2_with (at_builtin; go_must (refine wpList_appC rfl (.tmp 73) (.tmp 79) rfl _ (cnt + 1) (lk ++ [⟨true, 0, A2, om, c2, od⟩]) rfl HOWN4.out (some ⟨w4.heap.size, 0, none⟩) 1 1 [⟨u, kk, xA, m, xc, d⟩] rfl HONX4.out (by omega) ?_); intro v5 w5 hown hgrow; have HO5 := Lib.hid hown; have HG5 := Lib.hid hgrow; clear hown hgrow))
            go_roundw
            case rel =>
              refine ⟨q + 1, by omega, by go_num, by rw [HP1.out], cnt + 1 + 1, lk ++ [⟨true, 0, A2, om, c2, od⟩] ++ [⟨u, kk, xA, m, xc, d⟩], HO5.out.back (by have := HFW4.out.size; simp; omega) HTB.out, ?_, ?_, ⟨fun _ => by have := HCN.out.2 (by omega); omega, fun h => absurd (show q < q + 1 by omega) h⟩, ?_⟩
              · rw [List.map_append, List.map_append, HLK.out]
                exact (insQ_eq HX.out).symm
              · intro y hy
                rcases List.mem_append.1 hy with hy | hy
                · rcases List.mem_append.1 hy with hy | hy
                  · exact HMM.out y hy
                  · rw [List.mem_singleton] at hy; subst hy; exact hm
                · exact HMX.out y (List.mem_append_right _ hy)
              · exact ((HFW4.out.alloc _).grown HG5.out fun k hk => Or.inr (HOWN4.out.2.2.1 k hk))
            case measure => simp [intOf]; omega
          · have hgt : ltb od d = false := by have h9 := HGB.out q (by omega); rw [HXG.out] at h9; exact h9
            have HP1 := Lib.hid (decide_eq_false (show ¬ L < q + 1 by omega))
            have HPQ := Lib.hid (show q < L by omega)
            clear hp hql
            go_wp2_with fail
            go_quiet (fail)
            go_wp2_with (at_builtin; go_must (refine wpList_appC rfl (.tmp 73) (.tmp 79) rfl _ cnt lk rfl (HOWN.out _) (some ⟨wr.heap.size, 0, none⟩) 1 1 [⟨u, kk, xA, m, xc, d⟩] rfl (HONX.out _) (by omega) ?_); intro v5 w5 hown hgrow; have HO5 := Lib.hid hown; have HG5 := Lib.hid hgrow; clear hown hgrow)
            go_roundw
            case rel =>
              refine ⟨q + 1, by omega, by go_num, by rw [HP1.out], cnt + 1, lk ++ [⟨u, kk, xA, m, xc, d⟩], HO5.out.back (by have := HSW.out; simp; omega) HTB.out, ?_, ?_, ⟨fun h => absurd h (by have := HPQ.out; omega), fun _ => by have := HCN.out.2 (by have := HPQ.out; omega); omega⟩, ?_⟩
              · rw [List.map_append, HLK.out]
                exact (insQ_lt HX.out HPQ.out).symm
              · exact HMX.out
              · exact (((HFR.out.drewN _).alloc _).grown HG5.out fun k hk => Or.inr (HOL.out.2.2.1 k hk))
            case measure => simp [intOf]; omega
      · have h1d : decide ((q : Int) < (n : Int)) = false := decide_eq_false (by omega)
        have h1d2 : decide (q < n) = false := decide_eq_false hlt
        have hqn : q = n := by omega
        have HQN := Lib.hid hqn
        by_cases hp : L < q
        · rw [decide_eq_true hp] at hb
          subst hb
          have hEQ : R = if full (lk.map CV.e) then (4, []) else (0, lk.map CV.e) := by
            have hle : (l.map CV.e).length = n := by rw [List.length_map]; exact HLL.out.1
            have h9 : lk.map CV.e = (l.map CV.e).take L ++ ⟨true, 0, od⟩ :: (l.map CV.e).drop L := by
              rw [HLK.out, hqn, ← hle]
              exact insQ_end (by rw [hle]; omega)
            rw [HR.out, HPL.out]
            unfold putM
            rw [if_neg (by rw [hle]; omega), if_neg (by simp), show ((L : Int)).toNat = L by omega]
            have hIM : insM 2 (l.map CV.e) L od = (l.map CV.e).take L ++ ⟨true, 0, od⟩ :: (l.map CV.e).drop L := by
              unfold insM
              rw [if_neg (by rintro ⟨h, _⟩; exact absurd h (by decide))]
            rw [hIM, ← h9]
          have HEQ := Lib.hid hEQ
          clear hEQ hp hqn
          obtain ⟨w5, hw5⟩ : ∃ w5, w5 = wr := ⟨_, rfl⟩
          have HF5 : Hid (Fr W4 w5 No) := Lib.hid (by rw [hw5]; exact HFR.out)
          have HO5 : Hid (OwC w5 (fun b => W4.heap.size ≤ b) T1 (.slice vA cnt vc) cnt lk) := Lib.hid (by rw [hw5]; exact HOL.out)
          have HM5 : Hid (∀ x ∈ lk, x.m ≤ 2000) := Lib.hid HMM.out
          have yf3 := (HBX4.out.keep hfr fun h => h).frozen 3
          clear hfr
          go_upto_region 20 with fail
          rw [← hw5]
          clear hw5
          have hc3 : cnt ≤ 301 := by have := HQN.out; omega
          obtain ⟨WT, hWT⟩ : ∃ WT, w5.setCell ⟨w.heap.size, 3, none⟩ (.slice vA cnt vc) = WT := ⟨_, rfl⟩
          have hfT : Fr w5 WT (fun b => b = w.heap.size) := by rw [← hWT]; exact fr_set (Fr.refl _ _) _ _
          have HBXT : Hid (Blk WT w.heap.size 26 (pcs ⟨2, ps, px, vA, cnt, vc, lk⟩)) := Lib.hid (by rw [← hWT]; exact (HBX4.out.keep HF5.out fun h => h).set_ 3 _)
          have HFT : Hid (Fr w WT S) := Lib.hid ((HF4.out.trans HF5.out fun b hb => hb.elim).trans hfT fun b hb => Or.inr (by omega))
          have HBRT := Lib.hid ((HBR4.out.keep HF5.out fun h => h).keep hfT (show ¬ (W2.heap.size = w.heap.size) by have := HZ.out; omega))
          have hT2f : ∀ b, T1 b → b ≠ W2.heap.size ∧ b ≠ w.heap.size ∧ (T b ∨ w.heap.size ≤ b) := fun b hb => by
            have := HZ.out
            rcases HT1.out.2.2 b hb with hb | hb
            · have := HST.out.2 b hb; exact ⟨by omega, by omega, Or.inl hb⟩
            · exact ⟨by omega, by omega, Or.inr (by omega)⟩
          have HOLT : Hid (OwC WT (fun b => W4.heap.size ≤ b) T1 (.slice vA cnt vc) cnt lk ∧ (∀ b, W4.heap.size ≤ b → S b ∨ w.heap.size ≤ b) ∧ (∀ b, T1 b → T b ∨ w.heap.size ≤ b) ∧ ∀ x ∈ lk, x.m ≤ 2000) := Lib.hid ⟨HO5.out.keep hfT (fun b hb e => by have := HZ.out; have := HZ4.out; omega) (fun b hb e => (hT2f b hb).2.1 e), fun b hb => Or.inr (by have := HZ.out; have := HZ4.out; omega), fun b hb => (hT2f b hb).2.2, HM5.out⟩
          have HG2 := Lib.hid (fun k (hk : W4.heap.size ≤ k) => show k ≠ W2.heap.size by have := HZ.out; have := HZ4.out; omega)
          have HT2 := Lib.hid (fun k hk => (hT2f k hk).1)
          clear hfT hT2f
          have HQI : Hid (PV.In WT All All ⟨2, ps, px, vA, cnt, vc, lk⟩) := Lib.hid (PO.In (p := ⟨2, ps, px, vA, cnt, vc, lk⟩) ⟨HOLT.out.1, by show cnt ≤ _; omega, HK.out.1, HK.out.2.1, HK.out.2.2.1, HK.out.2.2.2⟩).all
          have HRS := Lib.hid (rsize_any ⟨2, ps, px, vA, cnt, vc, lk⟩ WT HQI.out (fun x hx => by have := HOLT.out.2.2.2 x hx; omega) (by show cnt ≤ _; omega))
          simp only [PV.agg] at HRS
          obtain ⟨y0, y1, y2, y3⟩ := pcs_cells HBXT.out
          simp only at y0 y1 y2 y3
          obtain ⟨Z, hZ⟩ : ∃ Z, Z = psz (lk.map CV.e) := ⟨_, rfl⟩
          have HZE := Lib.hid hZ
          rw [show psz (PV.es ⟨2, ps, px, vA, cnt, vc, lk⟩) = Z from hZ.symm] at HRS
          clear hZ
          have hlm : lk.length = cnt := HOLT.out.1.len
          have HLM := Lib.hid hlm
          clear hlm
          by_cases h60 : 60 < cnt
          · have d60 : decide ((cnt : Int) > 60) = true := decide_eq_true (by omega)
            have d60n : decide (60 < cnt) = true := decide_eq_true h60
            have HEQF : Hid (R = (4, [])) := Lib.hid (by rw [HEQ.out, if_pos (by unfold full; rw [List.length_map, HLM.out, decide_eq_true h60]; rfl)])
            clear h60
            have hst := store4 HBRT.out (.int .i64 0) (.int .u64 0) (.int .u32 0) (.slice none 0 0)
            obtain ⟨G, hG⟩ : ∃ G, ((((WT.setCell ⟨W2.heap.size, 0, none⟩ (.int .i64 0)).setCell ⟨W2.heap.size, 1, none⟩ (.int .u64 0)).setCell ⟨W2.heap.size, 2, none⟩ (.int .u32 0)).setCell ⟨W2.heap.size, 3, none⟩ (.slice none 0 0)) = G := ⟨_, rfl⟩
            rw [hG] at hst
            obtain ⟨⟨g0, g1, g2, g3⟩, _⟩ := blk4 hst.1
            have HFG := Lib.hid hst.2
            obtain ⟨⟨r0, r1, r2, r3⟩, rf0, rf1, rf2, rf3⟩ := blk4 HBRT.out
            clear hst
            go_wp2_with fail
            refine bodyPost_ret (v := .tuple #[PV.zero.agg, .int .i64 4]) (by simp [results, Try.results63, go_sem, g0, g1, g2, g3, PV.agg, PV.zero]) rfl ?_
            rw [HEQF.out]
            exact PutDO.no (c := 4) (by decide) (HFT.out.trans HFG.out fun b hb => Or.inr (by have := HZ.out; omega))
          · have d60 : decide ((cnt : Int) > 60) = false := decide_eq_false (by omega)
            have d60n : decide (60 < cnt) = false := decide_eq_false h60
            go_wp2_with fail
            with_reducible refine HRS.out.mono ?_
            rintro e ws ⟨rfl, hbs⟩
            have HBS := Lib.hid hbs
            have HFS := Lib.hid (HFT.out.trans (Fr.of_below hbs No) fun _ hn => hn.elim)
            have HBRS := Lib.hid (HBRT.out.keep (Fr.of_below hbs No) fun h => h)
            obtain ⟨y0, y1, y2, y3⟩ := pcs_cells (HBXT.out.keep (Fr.of_below hbs No) fun h => h)
            simp only at y0 y1 y2 y3
            clear hbs
            by_cases hzz : 512 < Z
            · have d51 : decide ((Z : Int) > 512) = true := decide_eq_true (by omega)
              have d51n : decide (512 < Z) = true := decide_eq_true hzz
              have HEQF : Hid (R = (4, [])) := Lib.hid (by rw [HEQ.out, if_pos (by unfold full; rw [← HZE.out, decide_eq_true hzz, Bool.or_true])])
              clear hzz
              have hst := store4 HBRS.out (.int .i64 0) (.int .u64 0) (.int .u32 0) (.slice none 0 0)
              obtain ⟨G, hG⟩ : ∃ G, ((((ws.setCell ⟨W2.heap.size, 0, none⟩ (.int .i64 0)).setCell ⟨W2.heap.size, 1, none⟩ (.int .u64 0)).setCell ⟨W2.heap.size, 2, none⟩ (.int .u32 0)).setCell ⟨W2.heap.size, 3, none⟩ (.slice none 0 0)) = G := ⟨_, rfl⟩
              rw [hG] at hst
              obtain ⟨⟨g0, g1, g2, g3⟩, _⟩ := blk4 hst.1
              have HFG := Lib.hid hst.2
              obtain ⟨⟨r0, r1, r2, r3⟩, rf0, rf1, rf2, rf3⟩ := blk4 HBRS.out
              clear hst
              go_wp2_with fail
              refine bodyPost_ret (v := .tuple #[PV.zero.agg, .int .i64 4]) (by simp [results, Try.results63, go_sem, g0, g1, g2, g3, PV.agg, PV.zero]) rfl ?_
              rw [HEQF.out]
              exact PutDO.no (c := 4) (by decide) (HFS.out.trans HFG.out fun b hb => Or.inr (by have := HZ.out; omega))
            · have d51 : decide ((Z : Int) > 512) = false := decide_eq_false (by omega)
              have d51n : decide (512 < Z) = false := decide_eq_false hzz
              have HEQF : Hid (R = (0, lk.map CV.e)) := Lib.hid (by rw [HEQ.out, if_neg (by unfold full; rw [← HZE.out, decide_eq_false hzz, List.length_map, HLM.out, decide_eq_false h60]; simp)])
              clear hzz
              have hst := store4 HBRS.out (.int .i64 2) (.int .u64 (ps : Int)) (.int .u32 (px : Int)) (.slice vA cnt vc)
              obtain ⟨G, hG⟩ : ∃ G, ((((ws.setCell ⟨W2.heap.size, 0, none⟩ (.int .i64 2)).setCell ⟨W2.heap.size, 1, none⟩ (.int .u64 (ps : Int))).setCell ⟨W2.heap.size, 2, none⟩ (.int .u32 (px : Int))).setCell ⟨W2.heap.size, 3, none⟩ (.slice vA cnt vc)) = G := ⟨_, rfl⟩
              rw [hG] at hst
              obtain ⟨⟨g0, g1, g2, g3⟩, _⟩ := blk4 hst.1
              have HFG := Lib.hid hst.2
              obtain ⟨⟨r0, r1, r2, r3⟩, rf0, rf1, rf2, rf3⟩ := blk4 HBRS.out
              clear hst
              go_wp2_with fail
              refine bodyPost_ret (v := .tuple #[.agg #[.int .i64 2, .int .u64 (ps : Int), .int .u32 (px : Int), .slice vA cnt vc], .int .i64 0]) (by simp [results, Try.results63, go_sem, g0, g1, g2, g3]) rfl ?_
              rw [HEQF.out]
              refine ⟨⟨2, ps, px, vA, cnt, vc, lk⟩, fun b => W4.heap.size ≤ b ∧ b < WT.heap.size ∧ b ≠ W2.heap.size, fun b => T1 b ∧ b < WT.heap.size ∧ b ≠ W2.heap.size, rfl, ⟨?_, by show cnt ≤ _; omega, HK.out.1, HK.out.2.1, HK.out.2.2.1, HK.out.2.2.2⟩, fun b hb => HOLT.out.2.1 b hb.1, fun b hb => HOLT.out.2.2.1 b hb.1, HFS.out.trans HFG.out fun b hb => Or.inr (by have := HZ.out; omega), fun _ => ⟨rfl, rfl, rfl, rfl⟩, fun h => absurd rfl h⟩
              have hown := HOLT.out.1
              have hgn := fun k (hk : Value.ownBlock (.slice vA cnt vc) = some k) => HG2.out k (hown.2.2.1 k hk)
              have hmo : OwC WT (fun b => W4.heap.size ≤ b ∧ b < WT.heap.size ∧ b ≠ W2.heap.size) (fun b => T1 b ∧ b < WT.heap.size ∧ b ≠ W2.heap.size) (.slice vA cnt vc) cnt lk := by
                refine ⟨hown.1, fun x hx => (hown.2.1 x hx).mono fun b hlt hb => ⟨hb, hlt, HT2.out b hb⟩, fun k hk => ⟨hown.2.2.1 k hk, (hown.1.lt k hk).2, hgn k hk⟩, fun k hk hb => hown.2.2.2 k hk hb.1⟩
              exact (hmo.below HBS.out).keep HFG.out (fun b hb e => hb.2.2 e) fun b hb e => hb.2.2 e
        · rw [decide_eq_false hp] at hb
          subst hb
          have HONE := Lib.hid (CR.one wr All T1 ⟨true, 0, A2, om, c2, od⟩ wr.heap.size rfl trivial (HXI.out.keep HFR.out fun _ _ hn => hn))
          have HOWN := Lib.hid (HOL.out.alloc (.cells #[.bool true, .int .u32 0, .slice A2 om c2] 58))
          simp only [Int.ofNat_zero] at HONE HOWN
          have hEQ : R = if full ((lk ++ [(⟨true, 0, A2, om, c2, od⟩ : CV)]).map CV.e) then (4, []) else (0, (lk ++ [(⟨true, 0, A2, om, c2, od⟩ : CV)]).map CV.e) := by
            have hle : (l.map CV.e).length = n := by rw [List.length_map]; exact HLL.out.1
            have hLn2 : L = n := by omega
            have h9 : (lk ++ [(⟨true, 0, A2, om, c2, od⟩ : CV)]).map CV.e = (l.map CV.e).take L ++ ⟨true, 0, od⟩ :: (l.map CV.e).drop L := by
              rw [List.map_append, HLK.out, hqn, hLn2, ← hle]
              exact insQ_all
            rw [HR.out, HPL.out]
            unfold putM
            rw [if_neg (by rw [hle]; omega), if_neg (by simp), show ((L : Int)).toNat = L by omega]
            have hIM : insM 2 (l.map CV.e) L od = (l.map CV.e).take L ++ ⟨true, 0, od⟩ :: (l.map CV.e).drop L := by
              unfold insM
              rw [if_neg (by rintro ⟨h, _⟩; exact absurd h (by decide))]
            rw [hIM, ← h9]
          have HEQ := Lib.hid hEQ
          have HCQ := Lib.hid (HCN.out.2 hp)
          clear hEQ hp hqn
          go_upto_region 20 with (at_builtin; go_must (refine wpList_appC rfl (.tmp 83) (.tmp 85) rfl _ cnt lk rfl HOWN.out (some ⟨wr.heap.size, 0, none⟩) 1 1 [⟨true, 0, A2, om, c2, od⟩] rfl HONE.out (by omega) ?_); intro v5 w5 hown hgrow; have HO5 := Lib.hid hown; have HG5 := Lib.hid hgrow; clear hown hgrow; have hO5 := HO5.out.back (by have := HSW.out; simp; omega) HTB.out; have hf5 : Fr W4 w5 No := ((HFR.out.alloc _).grown HG5.out fun k hk => Or.inr (HOWN.out.2.2.1 k hk)); have HF5 := Lib.hid hf5; have HO6 := Lib.hid hO5; obtain ⟨vA5, vc5, rfl, _⟩ := hO5.reads (by omega); have hbk5 := HBX4.out.keep hf5 (fun h => h); obtain ⟨y0, y1, y2, y3⟩ := pcs_cells hbk5; have yf3 := hbk5.frozen 3; simp only at y0 y1 y2 y3; clear hbk5 hO5 hf5 hfr)
          obtain ⟨lk5, hlk5⟩ : ∃ lk5, lk5 = lk ++ [⟨true, 0, A2, om, c2, od⟩] := ⟨_, rfl⟩
          rw [← hlk5] at HEQ HO6
          have HM5 : Hid (∀ x ∈ lk5, x.m ≤ 2000) := Lib.hid (fun x hx => by
            rw [hlk5] at hx
            rcases List.mem_append.1 hx with hx | hx
            · exact HMM.out x hx
            · rw [List.mem_singleton] at hx; subst hx; exact hm)
          obtain ⟨cnt5, hcnt5⟩ : ∃ cnt5, cnt5 = cnt + 1 := ⟨_, rfl⟩
          rw [← hcnt5] at HO6
          rw [← hcnt5]
          have hc3 : cnt5 ≤ 301 := by have := HQN.out; have := HCQ.out; omega
          clear hlk5 hcnt5
          obtain ⟨WT, hWT⟩ : ∃ WT, w5.setCell ⟨w.heap.size, 3, none⟩ (.slice vA5 cnt5 vc5) = WT := ⟨_, rfl⟩
          have hfT : Fr w5 WT (fun b => b = w.heap.size) := by rw [← hWT]; exact fr_set (Fr.refl _ _) _ _
          have HBXT : Hid (Blk WT w.heap.size 26 (pcs ⟨2, ps, px, vA5, cnt5, vc5, lk5⟩)) := Lib.hid (by rw [← hWT]; exact (HBX4.out.keep HF5.out fun h => h).set_ 3 _)
          have HFT : Hid (Fr w WT S) := Lib.hid ((HF4.out.trans HF5.out fun b hb => hb.elim).trans hfT fun b hb => Or.inr (by omega))
          have HBRT := Lib.hid ((HBR4.out.keep HF5.out fun h => h).keep hfT (show ¬ (W2.heap.size = w.heap.size) by have := HZ.out; omega))
          have hT2f : ∀ b, T1 b → b ≠ W2.heap.size ∧ b ≠ w.heap.size ∧ (T b ∨ w.heap.size ≤ b) := fun b hb => by
            have := HZ.out
            rcases HT1.out.2.2 b hb with hb | hb
            · have := HST.out.2 b hb; exact ⟨by omega, by omega, Or.inl hb⟩
            · exact ⟨by omega, by omega, Or.inr (by omega)⟩
          have HOLT : Hid (OwC WT (fun b => W4.heap.size ≤ b) T1 (.slice vA5 cnt5 vc5) cnt5 lk5 ∧ (∀ b, W4.heap.size ≤ b → S b ∨ w.heap.size ≤ b) ∧ (∀ b, T1 b → T b ∨ w.heap.size ≤ b) ∧ ∀ x ∈ lk5, x.m ≤ 2000) := Lib.hid ⟨HO6.out.keep hfT (fun b hb e => by have := HZ.out; have := HZ4.out; omega) (fun b hb e => (hT2f b hb).2.1 e), fun b hb => Or.inr (by have := HZ.out; have := HZ4.out; omega), fun b hb => (hT2f b hb).2.2, HM5.out⟩
          have HG2 := Lib.hid (fun k (hk : W4.heap.size ≤ k) => show k ≠ W2.heap.size by have := HZ.out; have := HZ4.out; omega)
          have HT2 := Lib.hid (fun k hk => (hT2f k hk).1)
          clear hfT hT2f
          have HQI : Hid (PV.In WT All All ⟨2, ps, px, vA5, cnt5, vc5, lk5⟩) := Lib.hid (PO.In (p := ⟨2, ps, px, vA5, cnt5, vc5, lk5⟩) ⟨HOLT.out.1, by show cnt5 ≤ _; omega, HK.out.1, HK.out.2.1, HK.out.2.2.1, HK.out.2.2.2⟩).all
          have HRS := Lib.hid (rsize_any ⟨2, ps, px, vA5, cnt5, vc5, lk5⟩ WT HQI.out (fun x hx => by have := HOLT.out.2.2.2 x hx; omega) (by show cnt5 ≤ _; omega))
          simp only [PV.agg] at HRS
          obtain ⟨y0, y1, y2, y3⟩ := pcs_cells HBXT.out
          simp only at y0 y1 y2 y3
          obtain ⟨Z, hZ⟩ : ∃ Z, Z = psz (lk5.map CV.e) := ⟨_, rfl⟩
          have HZE := Lib.hid hZ
          rw [show psz (PV.es ⟨2, ps, px, vA5, cnt5, vc5, lk5⟩) = Z from hZ.symm] at HRS
          clear hZ
          have hlm : lk5.length = cnt5 := HOLT.out.1.len
          have HLM := Lib.hid hlm
          clear hlm
          by_cases h60 : 60 < cnt5
          · have d60 : decide ((cnt5 : Int) > 60) = true := decide_eq_true (by omega)
            have d60n : decide (60 < cnt5) = true := decide_eq_true h60
            have HEQF : Hid (R = (4, [])) := Lib.hid (by rw [HEQ.out, if_pos (by unfold full; rw [List.length_map, HLM.out, decide_eq_true h60]; rfl)])
            clear h60
            have hst := store4 HBRT.out (.int .i64 0) (.int .u64 0) (.int .u32 0) (.slice none 0 0)
            obtain ⟨G, hG⟩ : ∃ G, ((((WT.setCell ⟨W2.heap.size, 0, none⟩ (.int .i64 0)).setCell ⟨W2.heap.size, 1, none⟩ (.int .u64 0)).setCell ⟨W2.heap.size, 2, none⟩ (.int .u32 0)).setCell ⟨W2.heap.size, 3, none⟩ (.slice none 0 0)) = G := ⟨_, rfl⟩
            rw [hG] at hst
            obtain ⟨⟨g0, g1, g2, g3⟩, _⟩ := blk4 hst.1
            have HFG := Lib.hid hst.2
            obtain ⟨⟨r0, r1, r2, r3⟩, rf0, rf1, rf2, rf3⟩ := blk4 HBRT.out
            clear hst
            go_wp2_with fail
            refine bodyPost_ret (v := .tuple #[PV.zero.agg, .int .i64 4]) (by simp [results, Try.results63, go_sem, g0, g1, g2, g3, PV.agg, PV.zero]) rfl ?_
            rw [HEQF.out]
            exact PutDO.no (c := 4) (by decide) (HFT.out.trans HFG.out fun b hb => Or.inr (by have := HZ.out; omega))
          · have d60 : decide ((cnt5 : Int) > 60) = false := decide_eq_false (by omega)
            have d60n : decide (60 < cnt5) = false := decide_eq_false h60
            go_wp2_with fail
            with_reducible refine HRS.out.mono ?_
            rintro e ws ⟨rfl, hbs⟩
            have HBS := Lib.hid hbs
            have HFS := Lib.hid (HFT.out.trans (Fr.of_below hbs No) fun _ hn => hn.elim)
            have HBRS := Lib.hid (HBRT.out.keep (Fr.of_below hbs No) fun h => h)
            obtain ⟨y0, y1, y2, y3⟩ := pcs_cells (HBXT.out.keep (Fr.of_below hbs No) fun h => h)
            simp only at y0 y1 y2 y3
            clear hbs
            by_cases hzz : 512 < Z
            · have d51 : decide ((Z : Int) > 512) = true := decide_eq_true (by omega)
              have d51n : decide (512 < Z) = true := decide_eq_true hzz
              have HEQF : Hid (R = (4, [])) := Lib.hid (by rw [HEQ.out, if_pos (by unfold full; rw [← HZE.out, decide_eq_true hzz, Bool.or_true])])
              clear hzz
              have hst := store4 HBRS.out (.int .i64 0) (.int .u64 0) (.int .u32 0) (.slice none 0 0)
              obtain ⟨G, hG⟩ : ∃ G, ((((ws.setCell ⟨W2.heap.size, 0, none⟩ (.int .i64 0)).setCell ⟨W2.heap.size, 1, none⟩ (.int .u64 0)).setCell ⟨W2.heap.size, 2, none⟩ (.int .u32 0)).setCell ⟨W2.heap.size, 3, none⟩ (.slice none 0 0)) = G := ⟨_, rfl⟩
              rw [hG] at hst
              obtain ⟨⟨g0, g1, g2, g3⟩, _⟩ := blk4 hst.1
              have HFG := Lib.hid hst.2
              obtain ⟨⟨r0, r1, r2, r3⟩, rf0, rf1, rf2, rf3⟩ := blk4 HBRS.out
              clear hst
              go_wp2_with fail
              refine bodyPost_ret (v := .tuple #[PV.zero.agg, .int .i64 4]) (by simp [results, Try.results63, go_sem, g0, g1, g2, g3, PV.agg, PV.zero]) rfl ?_
              rw [HEQF.out]
              exact PutDO.no (c := 4) (by decide) (HFS.out.trans HFG.out fun b hb => Or.inr (by have := HZ.out; omega))
            · have d51 : decide ((Z : Int) > 512) = false := decide_eq_false (by omega)
              have d51n : decide (512 < Z) = false := decide_eq_false hzz
              have HEQF : Hid (R = (0, lk5.map CV.e)) := Lib.hid (by rw [HEQ.out, if_neg (by unfold full; rw [← HZE.out, decide_eq_false hzz, List.length_map, HLM.out, decide_eq_false h60]; simp)])
              clear hzz
              have hst := store4 HBRS.out (.int .i64 2) (.int .u64 (ps : Int)) (.int .u32 (px : Int)) (.slice vA5 cnt5 vc5)
              obtain ⟨G, hG⟩ : ∃ G, ((((ws.setCell ⟨W2.heap.size, 0, none⟩ (.int .i64 2)).setCell ⟨W2.heap.size, 1, none⟩ (.int .u64 (ps : Int))).setCell ⟨W2.heap.size, 2, none⟩ (.int .u32 (px : Int))).setCell ⟨W2.heap.size, 3, none⟩ (.slice vA5 cnt5 vc5)) = G := ⟨_, rfl⟩
              rw [hG] at hst
              obtain ⟨⟨g0, g1, g2, g3⟩, _⟩ := blk4 hst.1
              have HFG := Lib.hid hst.2
              obtain ⟨⟨r0, r1, r2, r3⟩, rf0, rf1, rf2, rf3⟩ := blk4 HBRS.out
              clear hst
              go_wp2_with fail
              refine bodyPost_ret (v := .tuple #[.agg #[.int .i64 2, .int .u64 (ps : Int), .int .u32 (px : Int), .slice vA5 cnt5 vc5], .int .i64 0]) (by simp [results, Try.results63, go_sem, g0, g1, g2, g3]) rfl ?_
              rw [HEQF.out]
              refine ⟨⟨2, ps, px, vA5, cnt5, vc5, lk5⟩, fun b => W4.heap.size ≤ b ∧ b < WT.heap.size ∧ b ≠ W2.heap.size, fun b => T1 b ∧ b < WT.heap.size ∧ b ≠ W2.heap.size, rfl, ⟨?_, by show cnt5 ≤ _; omega, HK.out.1, HK.out.2.1, HK.out.2.2.1, HK.out.2.2.2⟩, fun b hb => HOLT.out.2.1 b hb.1, fun b hb => HOLT.out.2.2.1 b hb.1, HFS.out.trans HFG.out fun b hb => Or.inr (by have := HZ.out; omega), fun _ => ⟨rfl, rfl, rfl, rfl⟩, fun h => absurd rfl h⟩
              have hown := HOLT.out.1
              have hgn := fun k (hk : Value.ownBlock (.slice vA5 cnt5 vc5) = some k) => HG2.out k (hown.2.2.1 k hk)
              have hmo : OwC WT (fun b => W4.heap.size ≤ b ∧ b < WT.heap.size ∧ b ≠ W2.heap.size) (fun b => T1 b ∧ b < WT.heap.size ∧ b ≠ W2.heap.size) (.slice vA5 cnt5 vc5) cnt5 lk5 := by
                refine ⟨hown.1, fun x hx => (hown.2.1 x hx).mono fun b hlt hb => ⟨hb, hlt, HT2.out b hb⟩, fun k hk => ⟨hown.2.2.1 k hk, (hown.1.lt k hk).2, hgn k hk⟩, fun k hk hb => hown.2.2.2 k hk hb.1⟩
              exact (hmo.below HBS.out).keep HFG.out (fun b hb e => hb.2.2 e) fun b hb e => hb.2.2 e
end Go.Proofs.Ytajmpoanmdgmpaa
/-
  THE WALK OF Do (the document's).
-/
namespace Go.Proofs.Ytajmpoanmdgmpaa
open Go.RowKit

attribute [local go_sem high] run_neqL run_eqL
theorem atI_yes {k : Int} {es : List CE} {os : Int} {od : List Nat} (h : (place k es os od).2 = true) : ∃ i : Nat, atI k es os od = (i : Int) ∧ (place k es os od).1 = (i : Int) ∧ i < es.length := by
  have h1 := place_there h
  obtain ⟨i, hi⟩ := Int.eq_ofNat_of_zero_le h1.1
  refine ⟨i, ?_, hi, by omega⟩
  unfold atI
  rw [h, if_pos rfl, hi]
theorem OV.In.keep_ {w w' : World} {T U : Nat → Prop} {o : OV} (h : o.In w T) (hf : Fr w w' U) (hd : ∀ b, T b → ¬ U b) : o.In w' T := ⟨h.b.keep hf hd, h.k1, h.k2, h.s1, h.s2, h.t, h.mc, h.ml, h.nz⟩
theorem OV.In.tight {w : World} {o : OV} (h : o.In w All) : o.In w (fun b => b < w.heap.size) := ⟨h.b.mono fun _ hlt _ => hlt, h.k1, h.k2, h.s1, h.s2, h.t, h.mc, h.ml, h.nz⟩
theorem OV.In.all_ {w : World} {T : Nat → Prop} {o : OV} (h : o.In w T) : o.In w All := ⟨h.b.mono fun _ _ _ => trivial, h.k1, h.k2, h.s1, h.s2, h.t, h.mc, h.ml, h.nz⟩
set_option maxRecDepth 100000 in
theorem cut_row (w : World) (S T : Nat → Prop) (g n c : Nat) (l : List CV) (ho : OwC w S T (.slice (some ⟨g, 0, none⟩) n c) n l) (hn : n ≤ 1000) (i j k : Nat) (hi : i < n) (hj : j = i + 1) (hk : k = n - 1) :
    ∃ N1 : Array Value, (∀ ty, (Builtin.append_ #[24, 24] ty #[.slice (some ⟨g, 0, none⟩) i c, .slice (some ⟨g, j * 3, none⟩) (n - j) (c - j)]).run Try.prog w = .ok (.slice (some ⟨g, 0, none⟩) k c) (w.setRow g N1)) ∧
      (c = j → ∀ ty cc q, q = n - j → (Builtin.append_ #[24, 24] ty #[.slice (some ⟨g, 0, none⟩) i c, .slice (some ⟨g, 0, none⟩) q cc]).run Try.prog w = .ok (.slice (some ⟨g, 0, none⟩) k c) (w.setRow g N1)) ∧
      OwC (w.setRow g N1) S T (.slice (some ⟨g, 0, none⟩) k c) k (l.take i ++ l.drop j) ∧ n ≤ c := by
  have hln := ho.len
  obtain ⟨gq, cq, eq, hrow, hSg, hTg⟩ := ho.row (by omega)
  injection eq with eq1 _ eq3
  injection eq1 with eq1
  injection eq1 with eq1
  subst eq1 eq3
  obtain ⟨cur, hg, hnc, hmx, hcs, htk⟩ := hrow
  have hclen : (ccs l).length = n * 3 := by rw [ccs_len, hln]
  obtain ⟨cs, hcsd⟩ : ∃ cs, cs = (ccs l).drop (j * 3) := ⟨_, rfl⟩
  have hcsl : cs.length = (n - j) * 3 := by rw [hcsd, List.length_drop, hclen]; omega
  have hsrc : ∀ q v, cs[q]? = some v → w.cell? ((⟨g, j * 3, none⟩ : Addr).add q) = some v := by
    intro q v hq
    have hadd : (⟨g, j * 3, none⟩ : Addr).add q = ⟨g, j * 3 + q, none⟩ := by unfold Addr.add; split <;> simp_all
    rw [hadd]
    have hql : q < cs.length := by
      rcases Nat.lt_or_ge q cs.length with h | h
      · exact h
      · rw [List.getElem?_eq_none h] at hq; cases hq
    rw [hcsd, List.getElem?_drop] at hq
    have h1 : w.cell? ⟨g, j * 3 + q, none⟩ = cur[j * 3 + q]? := Blk.cell (t := 58) hg _
    rw [h1, ← hq, ← htk, List.getElem?_take_of_lt (by omega)]
    simp
  have hone : ∀ v ∈ cs, v.oneCell' = true := fun v hv => ccs_one l v (by rw [hcsd] at hv; exact List.mem_of_mem_drop hv)
  obtain ⟨N1, hN1⟩ : ∃ N1 : Array Value, N1 = (cur.toList.take (i * 3) ++ cs ++ cur.toList.drop (i * 3 + cs.length)).toArray := ⟨_, rfl⟩
  have hN1s : N1.size = c * 3 := by rw [hN1]; simp; omega
  have hN1t : N1.toList.take (k * 3) = ccs (l.take i ++ l.drop j) := by
    have e1 : cur.toList.take (i * 3) = ccs (l.take i) := by
      rw [ccs_take, ← htk, List.take_take]
      congr 1
      omega
    rw [hN1, ccs_append, ccs_drop, ← hcsd, e1]
    simp only
    rw [List.take_left']
    rw [List.length_append, ccs_len, List.length_take, hcsl]
    omega
  refine ⟨N1, fun ty => ?_, fun hcj ty cc q hq => ?_, ?_, hnc⟩
  · have h := run_append3 w ty g i c ⟨g, j * 3, none⟩ (n - j) (c - j) cur cs hg (by omega) hcsl hsrc (by omega) hone
    rw [hN1, h]
    congr 2
    omega
  · subst hq
    have hc0 : cs = [] := List.eq_nil_of_length_eq_zero (by omega)
    have h := run_append3 w ty g i c ⟨g, 0, none⟩ (n - j) cc cur cs hg (by omega) hcsl (fun q v hq => by rw [hc0] at hq; simp at hq) (by omega) hone
    rw [hN1, h]
    congr 2
    omega
  · have hr := RowC.made (n := k) (cap := c) (new := N1) hg (by omega) hmx hN1s
    rw [hN1t] at hr
    refine hr.ow (fun x hx => ?_) hSg hTg
    have hxi : x.In w T := by
      rcases List.mem_append.1 hx with hx | hx
      · exact ho.2.1 x (List.mem_of_mem_take hx)
      · exact ho.2.1 x (List.mem_of_mem_drop hx)
    exact hxi.keep (fr_row w g N1) fun b hb e => hTg (e ▸ hb)
set_option maxHeartbeats 20000000 in
set_option maxRecDepth 100000 in
theorem Do_doc (w : World) (p : PV) (h : p.In w All All) (hf : Few p) (op : OV) (hop : op.In w All) : Calls Try.prog 31 #[p.agg, op.agg] w (DoA w p (DoM p.k p.es op.k op.s op.t op.m op.d)) := by
  obtain ⟨W1, hW1, hBW1, hbx1, hsz1⟩ := box_page w p
  obtain ⟨W2, hW2, hBW2, hbx2, hsz2⟩ := box_op W1 op
  obtain ⟨W, hW⟩ : ∃ W, W2.alloc (.cells #[.int .i64 0, .int .u64 0, .int .u32 0, .slice none 0 0] 26) = W := ⟨_, rfl⟩
  have hB3 : Below W2.heap.size W2 W := by rw [← hW]; exact (Below.refl _ _).alloc (Nat.le_refl _) _
  have hBW : Below w.heap.size w W := (hBW1.trans (hBW2.mono hBW1.size)).trans (hB3.mono (by omega))
  have hbx : Blk W w.heap.size 26 (pcs p) := (hbx1.below hBW2 (by omega)).below hB3 (by omega)
  have hbo : Blk W W1.heap.size 46 (ocs op) := hbx2.below hB3 (by omega)
  have hbr : Blk W W2.heap.size 26 #[.int .i64 0, .int .u64 0, .int .u32 0, .slice none 0 0] := by rw [← hW]; exact Blk.new W2 26 _
  have hsz : W.heap.size = w.heap.size + 3 := by rw [← hW]; simp; omega
  have HZ := Lib.hid (show W1.heap.size = w.heap.size + 1 ∧ W2.heap.size = w.heap.size + 2 ∧ W.heap.size = w.heap.size + 3 by omega)
  obtain ⟨y0, y1, y2, y3⟩ := pcs_cells hbx
  obtain ⟨R, hR⟩ : ∃ R, R = DoM p.k p.es op.k op.s op.t op.m op.d := ⟨_, rfl⟩
  rw [← hR]
  have HR := Lib.hid hR
  have hmy := rmay_any p W (h.below hBW) hf
  obtain ⟨mb, hmb⟩ : ∃ mb, mb = may p.k p.es := ⟨_, rfl⟩
  rw [← hmb] at hmy
  have HM := Lib.hid hmy
  have HMB := Lib.hid hmb
  have HRT := Lib.hid (fun W' => rright_any p.k op W')
  obtain ⟨rb, hrb⟩ : ∃ rb, rb = rightP p.k op.k op.s op.t op.m := ⟨_, rfl⟩
  rw [← hrb] at HRT
  have HRB := Lib.hid hrb
  have HC := Lib.hid (fun W' (hW' : Below W.heap.size W W') => copyPage_any p W' ((h.below hBW).below hW') hf)
  have HBW := Lib.hid hBW
  have HBX := Lib.hid hbx
  have HBO := Lib.hid hbo
  have HBR := Lib.hid hbr
  have HF := Lib.hid hf
  have HOP : Hid (OV.In W (fun b => b < w.heap.size) op) := Lib.hid (hop.tight.below hBW)
  have HLZ := Lib.hid (fun z hz => (h.r.2.1 z hz).len)
  have HLEN := Lib.hid (show p.es.length = p.n from h.len)
  obtain ⟨pk, ps, px, pA, n, pc, l⟩ := p
  obtain ⟨ok, os, ot, oA, om, oc, od⟩ := op
  have hn3 : n ≤ 300 := hf.n
  simp only at hW1 hW2 y0 y1 y2 y3
  simp only [PV.agg, OV.agg] at HM HRT HC ⊢
  clear h hf hop hbx hbo hbr hBW hBW1 hBW2 hB3 hsz hsz1 hsz2 hbx1 hbx2 hmy hR hmb hrb
  go_enter Try.func31, Try.ntmps31
  go_wp2_with fail
  refine HM.out.mono ?_
  rintro e w1 ⟨rfl, hb1⟩
  have HB1 := Lib.hid hb1
  obtain ⟨y0, y1, y2, y3⟩ := pcs_cells (HBX.out.below hb1 (by have := HZ.out; omega))
  obtain ⟨t0, t1, t2, t3⟩ := ocs_cells (HBO.out.below hb1 (by have := HZ.out; omega))
  simp only at y0 y1 y2 y3 t0 t1 t2 t3
  have HBR1 := Lib.hid (HBR.out.below hb1 (by have := HZ.out; omega))
  have HF1 := Lib.hid (HBW.out.trans (hb1.mono HBW.out.size))
  clear hb1
  cases mb with
  | false =>
    have HEQF : Hid (R = (5, [])) := Lib.hid (by rw [HR.out]; unfold DoM; rw [← HMB.out, if_neg (by simp)])
    have hst := store4 HBR1.out (.int .i64 0) (.int .u64 0) (.int .u32 0) (.slice none 0 0)
    obtain ⟨G, hG⟩ : ∃ G, ((((w1.setCell ⟨W2.heap.size, 0, none⟩ (.int .i64 0)).setCell ⟨W2.heap.size, 1, none⟩ (.int .u64 0)).setCell ⟨W2.heap.size, 2, none⟩ (.int .u32 0)).setCell ⟨W2.heap.size, 3, none⟩ (.slice none 0 0)) = G := ⟨_, rfl⟩
    rw [hG] at hst
    obtain ⟨⟨g0, g1, g2, g3⟩, _⟩ := blk4 hst.1
    have HFG := Lib.hid hst.2
    obtain ⟨⟨r0, r1, r2, r3⟩, rf0, rf1, rf2, rf3⟩ := blk4 HBR1.out
    clear hst
    go_wp2_with fail
    refine bodyPost_ret (v := .tuple #[PV.zero.agg, .int .i64 5]) (by simp [results, Try.results31, go_sem, g0, g1, g2, g3, PV.agg, PV.zero]) rfl ?_
    rw [HEQF.out]
    exact DoA.no (c := 5) (by decide) (HF1.out.trans (HFG.out.below (fun b hb => by have := HZ.out; omega) HF1.out.size))
  | true =>
    go_wp2_with fail
    refine (HRT.out _).mono ?_
    rintro e w2 ⟨rfl, hb2⟩
    have HB2 := Lib.hid (HB1.out.trans (hb2.mono HB1.out.size))
    obtain ⟨y0, y1, y2, y3⟩ := pcs_cells (HBX.out.below HB2.out (by have := HZ.out; omega))
    simp only at y0 y1 y2 y3
    have HBR2 := Lib.hid (HBR.out.below HB2.out (by have := HZ.out; omega))
    have HF2 := Lib.hid (HBW.out.trans (HB2.out.mono HBW.out.size))
    clear hb2
    cases rb with
    | false =>
      have HEQF : Hid (R = (1, [])) := Lib.hid (by rw [HR.out]; unfold DoM; rw [← HMB.out, ← HRB.out, if_pos rfl, if_neg (by simp)])
      have hst := store4 HBR2.out (.int .i64 0) (.int .u64 0) (.int .u32 0) (.slice none 0 0)
      obtain ⟨G, hG⟩ : ∃ G, ((((w2.setCell ⟨W2.heap.size, 0, none⟩ (.int .i64 0)).setCell ⟨W2.heap.size, 1, none⟩ (.int .u64 0)).setCell ⟨W2.heap.size, 2, none⟩ (.int .u32 0)).setCell ⟨W2.heap.size, 3, none⟩ (.slice none 0 0)) = G := ⟨_, rfl⟩
      rw [hG] at hst
      obtain ⟨⟨g0, g1, g2, g3⟩, _⟩ := blk4 hst.1
      have HFG := Lib.hid hst.2
      obtain ⟨⟨r0, r1, r2, r3⟩, rf0, rf1, rf2, rf3⟩ := blk4 HBR2.out
      clear hst
      go_wp2_with fail
      refine bodyPost_ret (v := .tuple #[PV.zero.agg, .int .i64 1]) (by simp [results, Try.results31, go_sem, g0, g1, g2, g3, PV.agg, PV.zero]) rfl ?_
      rw [HEQF.out]
      exact DoA.no (c := 1) (by decide) (HF2.out.trans (HFG.out.below (fun b hb => by have := HZ.out; omega) HF2.out.size))
    | true =>
      have HRD : Hid (R = doM pk (PV.es ⟨pk, ps, px, pA, n, pc, l⟩) ok os ot od) := Lib.hid (by rw [HR.out]; unfold DoM; rw [← HMB.out, ← HRB.out, if_pos rfl, if_pos rfl])
      go_wp2_with fail
      refine (HC.out _ HB2.out).mono ?_
      rintro e w3 ⟨p', S0, T0, rfl, hpo, hS, hT, hes, hpk, hps, hpx, hpn, hb3⟩
      have hB3 := HB2.out.trans (hb3.mono HB2.out.size)
      have hml : ∀ x ∈ p'.l, x.m ≤ 2000 := fun y hy => by
        have h1 : y.e ∈ p'.es := List.mem_map_of_mem hy
        rw [hes] at h1
        obtain ⟨z, hz, hze⟩ := List.mem_map.1 h1
        have h2 := (hpo.o.2.1 y hy).len
        have h4 : z.d = y.d := congrArg CE.d hze
        have h5 := HF.out.m z hz
        have h6 := HLZ.out z hz
        rw [h4] at h6
        omega
      obtain ⟨qk, qs, qx, qA, qn, qc, ql⟩ := p'
      simp only at hpk hps hpx hpn hml
      subst hpk hps hpx hpn
      have hb0 := HBX.out.below hB3 (by have := HZ.out; omega)
      simp only [pcs] at hb0
      have hst := store4 hb0 (.int .i64 qk) (.int .u64 (qs : Int)) (.int .u32 (qx : Int)) (.slice qA qn qc)
      obtain ⟨D, hD⟩ : ∃ D, (((w3.setCell ⟨w.heap.size, 0, none⟩ (.int .i64 qk)).setCell ⟨w.heap.size, 1, none⟩ (.int .u64 (qs : Int))).setCell ⟨w.heap.size, 2, none⟩ (.int .u32 (qx : Int))).setCell ⟨w.heap.size, 3, none⟩ (.slice qA qn qc) = D := ⟨_, rfl⟩
      rw [hD] at hst
      obtain ⟨⟨y0, y1, y2, y3⟩, yf0, yf1, yf2, yf3⟩ := blk4 hb0
      obtain ⟨S, hSd⟩ : ∃ S : Nat → Prop, S = fun b => S0 b ∧ b < w3.heap.size := ⟨_, rfl⟩
      obtain ⟨T, hTd⟩ : ∃ T : Nat → Prop, T = fun b => T0 b ∧ b < w3.heap.size := ⟨_, rfl⟩
      have hzz := HZ.out
      have hw2 := HB2.out.size
      have hst2 : (∀ b, S b → W.heap.size ≤ b ∧ b < w3.heap.size) ∧ ∀ b, T b → W.heap.size ≤ b ∧ b < w3.heap.size := by
        rw [hSd, hTd]
        exact ⟨fun b hb => ⟨Nat.le_trans hw2 (hS b hb.1), hb.2⟩, fun b hb => ⟨Nat.le_trans hw2 (hT b hb.1), hb.2⟩⟩
      have hpt : PO w3 S T ⟨qk, qs, qx, qA, qn, qc, ql⟩ := by rw [hSd, hTd]; exact hpo.tight
      have hpD : PO D S T ⟨qk, qs, qx, qA, qn, qc, ql⟩ := hpt.keep hst.2 (fun b hb e => by have := hst2.1 b hb; omega) fun b hb e => by have := hst2.2 b hb; omega
      have hszD : D.heap.size = w3.heap.size := by rw [← hD]; simp
      have hfD : Below w.heap.size w D := (HBW.out.trans (hB3.mono HBW.out.size)).trans (hst.2.below (fun b hb => by omega) (by have := hB3.size; omega))
      have HAT := Lib.hid (At_any ⟨qk, qs, qx, qA, qn, qc, ql⟩ ⟨ok, os, ot, oA, om, oc, od⟩ D hpD.In.all ⟨hn3, hml⟩ ((HOP.out.below hB3).keep_ hst.2 (fun b hb e => by omega)).all_ (right_parts HRB.out.symm).1 (fun h2 => by rw [hes]; exact may_rise HMB.out.symm h2))
      simp only [PV.agg, OV.agg] at HAT
      have HES := Lib.hid hes
      rw [← hes] at HRD
      rw [hes] at HAT
      have HPD := Lib.hid hpD
      have HST := Lib.hid hst2
      have HML := Lib.hid hml
      have HBXD : Hid (Blk D w.heap.size 26 (pcs ⟨qk, qs, qx, qA, qn, qc, ql⟩)) := Lib.hid hst.1
      have HBOD := Lib.hid ((HBO.out.below hB3 (by omega)).keep hst.2 (show ¬ (W1.heap.size = w.heap.size) by omega))
      have HBRD := Lib.hid ((HBR.out.below hB3 (by omega)).keep hst.2 (show ¬ (W2.heap.size = w.heap.size) by omega))
      have HFD := Lib.hid hfD
      have HSZD := Lib.hid (show D.heap.size = w3.heap.size ∧ W.heap.size ≤ w3.heap.size from ⟨hszD, hB3.size⟩)
      have HOPD : Hid (OV.In D All ⟨ok, os, ot, oA, om, oc, od⟩) := Lib.hid ((HOP.out.below hB3).keep_ hst.2 (fun b hb e => by omega)).all_
      obtain ⟨t0, t1, t2, t3⟩ := ocs_cells HBOD.out
      obtain ⟨⟨z0, z1, z2, z3⟩, _⟩ := blk4 hst.1
      simp only at t0 t1 t2 t3
      clear hst hpo hS hT hes hml hSd hTd hst2 hpt hpD hszD hfD hb0 hb3 hB3 hzz hw2
      go_wp2_with fail
      refine HAT.out.mono ?_
      rintro e w6 ⟨rfl, hb6⟩
      have HF6 := Lib.hid (HFD.out.trans (hb6.mono HFD.out.size))
      have hno6 := Fr.of_below hb6 No
      have HBX6 := Lib.hid (HBXD.out.keep hno6 fun h => h)
      have HBO6 := Lib.hid (HBOD.out.keep hno6 fun h => h)
      have HBR6 := Lib.hid (HBRD.out.keep hno6 fun h => h)
      have HPO6 := Lib.hid (HPD.out.keep hno6 (fun _ _ hn => hn) fun _ _ hn => hn)
      have HOP6 : Hid (OV.In w6 All ⟨ok, os, ot, oA, om, oc, od⟩) := Lib.hid (HOPD.out.below hb6)
      have HSTN := Lib.hid (show (∀ b, S b → W.heap.size ≤ b ∧ b < w6.heap.size) ∧ ∀ b, T b → W.heap.size ≤ b ∧ b < w6.heap.size by
        have := HSZD.out
        have := hb6.size
        exact ⟨fun b hb => by have := HST.out.1 b hb; omega, fun b hb => by have := HST.out.2 b hb; omega⟩)
      have HSZ6 := Lib.hid (show W.heap.size ≤ w6.heap.size by have := hb6.size; have := HSZD.out; omega)
      obtain ⟨y0, y1, y2, y3⟩ := pcs_cells HBX6.out
      obtain ⟨t0, t1, t2, t3⟩ := ocs_cells HBO6.out
      simp only at y0 y1 y2 y3 t0 t1 t2 t3
      have HK12 := Lib.hid (right_parts HRB.out.symm).1
      have HOK := Lib.hid (right_parts HRB.out.symm).2.1
      have HOK4 := Lib.hid (right_parts HRB.out.symm).2.2.1
      have hom : om ≤ 180 := (right_parts HRB.out.symm).2.2.2
      have hll : ql.length = qn := HPO6.out.o.len
      have HLL := Lib.hid hll
      have HTH0 := Lib.hid (@atI_yes qk (ql.map CV.e) os od)
      obtain ⟨AI, hAI⟩ : ∃ AI, AI = atI qk (ql.map CV.e) os od := ⟨_, rfl⟩
      rw [show atI qk (PV.es ⟨qk, qs, qx, pA, qn, pc, l⟩) os od = AI by rw [← HES.out]; exact hAI.symm]
      have HAI := Lib.hid hAI
      have HRD2 : Hid (R = doM qk (ql.map CV.e) ok os ot od) := Lib.hid HRD.out
      have HRI : Hid (qk = 2 → rise 0 (ql.map CV.e) = true) := Lib.hid (fun h2 => by have h9 := may_rise HMB.out.symm h2; rw [← HES.out] at h9; exact h9)
      clear hno6 hb6 hll hAI HRD
      cases hth : (place qk (ql.map CV.e) os od).2 with
      | false =>
        have HTH := Lib.hid hth
        have hA1 : AI = -1 := by rw [HAI.out]; unfold atI; rw [hth]; rfl
        have da : decide (AI ≥ 0) = false := decide_eq_false (by omega)
        have da' : decide (0 ≤ AI) = false := decide_eq_false (by omega)
        have db : decide (AI < 0) = true := decide_eq_true (by omega)
        clear hth hA1
        by_cases hk1 : ok = 1
        · have dk : (ok == 1) = true := by rw [beq_iff_eq]; exact hk1
          have HOK1 := Lib.hid hk1
          have HPUT := Lib.hid (put_doc w6 S T ⟨qk, qs, qx, qA, qn, qc, ql⟩ HPO6.out hn3 HML.out (fun b hb => (HSTN.out.1 b hb).2) (fun b hb => (HSTN.out.2 b hb).2) ⟨ok, os, ot, oA, om, oc, od⟩ HOP6.out (by show om ≤ 2000; omega) HK12.out HRI.out HTH.out)
          simp only [PV.agg, OV.agg] at HPUT
          clear hk1
          go_wp2_with fail
          refine HPUT.out.mono ?_
          have HRF : Hid (R = putM qk (ql.map CV.e) (place qk (ql.map CV.e) os od).1 false od) := Lib.hid (by rw [HRD2.out]; unfold doM; rw [if_pos HOK1.out, HTH.out])
          rintro e w7 ⟨q, S', T', rfl, hpo, hS, hT, hfr, hq0, hqz⟩
          have HPO7 := Lib.hid hpo
          have HST7 := Lib.hid (show (∀ b, S' b → W.heap.size ≤ b) ∧ ∀ b, T' b → W.heap.size ≤ b by
            have := HSZ6.out
            exact ⟨fun b hb => (hS b hb).elim (fun h => (HSTN.out.1 b h).1) fun h => by omega, fun b hb => (hT b hb).elim (fun h => (HSTN.out.2 b h).1) fun h => by omega⟩)
          have HF7 : Hid (Below w.heap.size w w7) := Lib.hid (HF6.out.trans (hfr.below (fun b hb => by have := HSTN.out.1 b hb; have := HZ.out; omega) HF6.out.size))
          have HBR7 := Lib.hid (HBR6.out.keep hfr fun hb => by have := HSTN.out.1 _ hb; have := HZ.out; omega)
          have HQ0 := Lib.hid hq0
          have HQZ := Lib.hid hqz
          have hR9 : putM qk (PV.es ⟨qk, qs, qx, qA, qn, qc, ql⟩) (place qk (PV.es ⟨qk, qs, qx, qA, qn, qc, ql⟩) os od).1 false od = R := HRF.out.symm
          simp only at HQ0 HQZ
          simp only [hR9] at HQ0 HQZ ⊢
          obtain ⟨C, hC⟩ : ∃ C, C = R.1 := ⟨_, rfl⟩
          rw [← hC]
          have HC9 := Lib.hid hC
          clear hpo hS hT hfr hq0 hqz hR9 hC
          obtain ⟨k7, s7, x7, A7, n7, c7, l7⟩ := q
          simp only [PV.agg]
          have hst := store4 HBR7.out (.int .i64 k7) (.int .u64 (s7 : Int)) (.int .u32 (x7 : Int)) (.slice A7 n7 c7)
          obtain ⟨G, hG⟩ : ∃ G, ((((w7.setCell ⟨W2.heap.size, 0, none⟩ (.int .i64 k7)).setCell ⟨W2.heap.size, 1, none⟩ (.int .u64 (s7 : Int))).setCell ⟨W2.heap.size, 2, none⟩ (.int .u32 (x7 : Int))).setCell ⟨W2.heap.size, 3, none⟩ (.slice A7 n7 c7)) = G := ⟨_, rfl⟩
          rw [hG] at hst
          obtain ⟨⟨g0, g1, g2, g3⟩, _⟩ := blk4 hst.1
          have HFG := Lib.hid hst.2
          obtain ⟨⟨r0, r1, r2, r3⟩, rf0, rf1, rf2, rf3⟩ := blk4 HBR7.out
          clear hst
          go_wp2_with fail
          refine bodyPost_ret (v := .tuple #[.agg #[.int .i64 k7, .int .u64 (s7 : Int), .int .u32 (x7 : Int), .slice A7 n7 c7], .int .i64 C]) (by simp [results, Try.results31, go_sem, g0, g1, g2, g3]) rfl ?_
          refine ⟨⟨k7, s7, x7, A7, n7, c7, l7⟩, S', T', by rw [← HC9.out]; rfl, HPO7.out.keep HFG.out (fun b hb e => by have := HST7.out.1 b hb; have := HZ.out; omega) (fun b hb e => by have := HST7.out.2 b hb; have := HZ.out; omega), fun b hb => by have := HST7.out.1 b hb; have := HZ.out; omega, fun b hb => by have := HST7.out.2 b hb; have := HZ.out; omega, HF7.out.trans (HFG.out.below (fun b hb => by have := HZ.out; omega) HF7.out.size), HQ0.out, HQZ.out⟩
        · have dk : (ok == 1) = false := beq_false_of_ne hk1
          have HEQF : Hid (R = (6, [])) := Lib.hid (by
            rw [HRD2.out]
            unfold doM
            rw [if_neg hk1, HTH.out]
            unfold killM wakeM freeM
            split
            · rfl
            · split <;> rfl)
          clear hk1
          have hst := store4 HBR6.out (.int .i64 0) (.int .u64 0) (.int .u32 0) (.slice none 0 0)
          obtain ⟨G, hG⟩ : ∃ G, ((((w6.setCell ⟨W2.heap.size, 0, none⟩ (.int .i64 0)).setCell ⟨W2.heap.size, 1, none⟩ (.int .u64 0)).setCell ⟨W2.heap.size, 2, none⟩ (.int .u32 0)).setCell ⟨W2.heap.size, 3, none⟩ (.slice none 0 0)) = G := ⟨_, rfl⟩
          rw [hG] at hst
          obtain ⟨⟨g0, g1, g2, g3⟩, _⟩ := blk4 hst.1
          have HFG := Lib.hid hst.2
          obtain ⟨⟨r0, r1, r2, r3⟩, rf0, rf1, rf2, rf3⟩ := blk4 HBR6.out
          clear hst
          go_wp2_with fail
          refine bodyPost_ret (v := .tuple #[PV.zero.agg, .int .i64 6]) (by simp [results, Try.results31, go_sem, g0, g1, g2, g3, PV.agg, PV.zero]) rfl ?_
          rw [HEQF.out]
          exact DoA.no (c := 6) (by decide) (HF6.out.trans (HFG.out.below (fun b hb => by have := HZ.out; omega) HF6.out.size))
      | true =>
        obtain ⟨i, hi1, hi2, hi3⟩ := HTH0.out hth
        have hAi : AI = (i : Int) := by rw [HAI.out]; exact hi1
        subst hAi
        have HTH := Lib.hid hth
        have HPL := Lib.hid hi2
        have hin : i < qn := by rw [List.length_map, HLL.out] at hi3; exact hi3
        have hinI : (i : Int) < (qn : Int) := by omega
        have da : decide ((i : Int) ≥ 0) = true := decide_eq_true (by omega)
        have db : decide ((i : Int) < 0) = false := decide_eq_false (by omega)
        have HI3 := Lib.hid hi3
        clear hth hi1 hi2 hi3
        by_cases hk1 : ok = 1
        · have dk : (ok == 1) = true := by rw [beq_iff_eq]; exact hk1
          have HEQF : Hid (R = (7, [])) := Lib.hid (by
            rw [HRD2.out]
            unfold doM putM
            rw [if_pos hk1, HTH.out, HPL.out, if_neg (by have := HI3.out; omega), if_pos rfl])
          clear hk1
          have hst := store4 HBR6.out (.int .i64 0) (.int .u64 0) (.int .u32 0) (.slice none 0 0)
          obtain ⟨G, hG⟩ : ∃ G, ((((w6.setCell ⟨W2.heap.size, 0, none⟩ (.int .i64 0)).setCell ⟨W2.heap.size, 1, none⟩ (.int .u64 0)).setCell ⟨W2.heap.size, 2, none⟩ (.int .u32 0)).setCell ⟨W2.heap.size, 3, none⟩ (.slice none 0 0)) = G := ⟨_, rfl⟩
          rw [hG] at hst
          obtain ⟨⟨g0, g1, g2, g3⟩, _⟩ := blk4 hst.1
          have HFG := Lib.hid hst.2
          obtain ⟨⟨r0, r1, r2, r3⟩, rf0, rf1, rf2, rf3⟩ := blk4 HBR6.out
          clear hst
          go_wp2_with fail
          refine bodyPost_ret (v := .tuple #[PV.zero.agg, .int .i64 7]) (by simp [results, Try.results31, go_sem, g0, g1, g2, g3, PV.agg, PV.zero]) rfl ?_
          rw [HEQF.out]
          exact DoA.no (c := 7) (by decide) (HF6.out.trans (HFG.out.below (fun b hb => by have := HZ.out; omega) HF6.out.size))
        · have dk : (ok == 1) = false := beq_false_of_ne hk1
          obtain ⟨gr, cap, er, hrow, hSg, hTg⟩ := HPO6.out.o.row (by show 0 < qn; omega)
          simp only at er hrow
          injection er with er1 _ er3
          subst er1 er3
          obtain ⟨gx, ox, xx, hA, hgx, _, hxx, hxi, b0, b1, b2⟩ := HPO6.out.In.r.at_ hin
          simp only at hA hxx
          injection hA with hA
          injection hA with e1 e2
          subst e1 e2
          rw [Nat.zero_add] at b0 b1 b2
          have hws : IntKind.i64.wrap (i : Int) = (i : Int) := IntWalk.i64_in _ (by omega)
          have hfz0 := hrow.frozen (i * 3)
          have hfz1 := hrow.frozen (i * 3 + 1)
          have hfz2 := hrow.frozen (i * 3 + 2)
          have HXX := Lib.hid hxx
          have HXI := Lib.hid hxi
          have HGS := Lib.hid (show S gr ∧ ¬ T gr ∧ gr ≠ w.heap.size ∧ gr ≠ W2.heap.size from ⟨hSg, hTg, by have := HSTN.out.1 _ hSg; have := HZ.out; omega, by have := HSTN.out.1 _ hSg; have := HZ.out; omega⟩)
          have HDX : Hid ((ql.map CV.e).getD i cz = xx.e) := Lib.hid (getD_at (es_at hxx))
          have HRD3 : Hid (R = if ok = 2 then killM (ql.map CV.e) (i : Int) true ot else if ok = 3 then wakeM (ql.map CV.e) (i : Int) true else freeM qk (ql.map CV.e) (i : Int) true) := Lib.hid (by rw [HRD2.out]; unfold doM; rw [if_neg hk1, HTH.out, HPL.out])
          have e9 : ((i : Int)).toNat = i := by omega
          obtain ⟨u, kk, xA, m, xc, d⟩ := xx
          simp only at b0 b1 b2
          have HDX : Hid ((ql.map CV.e).getD i cz = ⟨u, kk, d⟩) := HDX
          clear hrow hSg hTg hgx hxx hxi
          by_cases hk2 : ok = 2
          · have dk2 : (ok == 2) = true := by rw [beq_iff_eq]; exact hk2
            have dk3 : (ok == 3) = false := beq_false_of_ne (by omega)
            have HRD4 : Hid (R = killM (ql.map CV.e) (i : Int) true ot) := Lib.hid (by rw [HRD3.out, if_pos hk2])
            clear hk1 hk2
            by_cases hkk : kk = 0
            · have dz : ((kk : Int) != 0) = false := bne_eq_false_iff_eq.2 (by omega)
              have HEQF : Hid (R = (0, (ql.set i ⟨u, ot, xA, m, xc, d⟩).map CV.e)) := Lib.hid (by
                rw [HRD4.out]
                unfold killM
                rw [if_pos rfl, e9, HDX.out, if_pos hkk, es_set]
                rfl)
              clear hkk e9
              have hput := HPO6.out.o.put1 HXX.out ot HOP6.out.t
              obtain ⟨WT, hWT⟩ : ∃ WT, w6.setCell ⟨gr, i * 3 + 1, none⟩ (.int .u32 (ot : Int)) = WT := ⟨_, rfl⟩
              have hfT : Fr w6 WT (fun b => b = gr) := by rw [← hWT]; exact fr_set (Fr.refl _ _) _ _
              have HOT : Hid (OwC WT S T (.slice (some ⟨gr, 0, none⟩) qn qc) qn (ql.set i ⟨u, ot, xA, m, xc, d⟩)) := Lib.hid (by rw [← hWT]; exact hput)
              have HBXT := Lib.hid (HBX6.out.keep hfT (fun e => HGS.out.2.2.1 e.symm))
              have HBRT := Lib.hid (HBR6.out.keep hfT (fun e => HGS.out.2.2.2 e.symm))
              have HFT : Hid (Below w.heap.size w WT) := Lib.hid (HF6.out.trans (hfT.below (fun b hb => by have := HSTN.out.1 _ HGS.out.1; have := HZ.out; omega) HF6.out.size))
              clear hput hfT
              obtain ⟨⟨z0, z1, z2, z3⟩, zf0, zf1, zf2, zf3⟩ := blk4 HBXT.out
              have hst := store4 HBRT.out (.int .i64 qk) (.int .u64 (qs : Int)) (.int .u32 (qx : Int)) (.slice (some ⟨gr, 0, none⟩) qn qc)
              obtain ⟨G, hG⟩ : ∃ G, ((((WT.setCell ⟨W2.heap.size, 0, none⟩ (.int .i64 qk)).setCell ⟨W2.heap.size, 1, none⟩ (.int .u64 (qs : Int))).setCell ⟨W2.heap.size, 2, none⟩ (.int .u32 (qx : Int))).setCell ⟨W2.heap.size, 3, none⟩ (.slice (some ⟨gr, 0, none⟩) qn qc)) = G := ⟨_, rfl⟩
              rw [hG] at hst
              obtain ⟨⟨g0, g1, g2, g3⟩, _⟩ := blk4 hst.1
              have HFG := Lib.hid hst.2
              obtain ⟨⟨r0, r1, r2, r3⟩, rf0, rf1, rf2, rf3⟩ := blk4 HBRT.out
              clear hst
              go_wp2_with fail
              refine bodyPost_ret (v := .tuple #[.agg #[.int .i64 qk, .int .u64 (qs : Int), .int .u32 (qx : Int), .slice (some ⟨gr, 0, none⟩) qn qc], .int .i64 0]) (by simp [results, Try.results31, go_sem, g0, g1, g2, g3]) rfl ?_
              rw [HEQF.out]
              refine ⟨⟨qk, qs, qx, (some ⟨gr, 0, none⟩), qn, qc, (ql.set i ⟨u, ot, xA, m, xc, d⟩)⟩, S, T, rfl, ⟨HOT.out.keep HFG.out (fun b hb e => by have := HSTN.out.1 b hb; have := HZ.out; omega) (fun b hb e => by have := HSTN.out.2 b hb; have := HZ.out; omega), by show qn ≤ _; omega, HPD.out.k1, HPD.out.k2, HPD.out.s, HPD.out.x⟩, fun b hb => by have := HSTN.out.1 b hb; have := HZ.out; omega, fun b hb => by have := HSTN.out.2 b hb; have := HZ.out; omega, HFT.out.trans (HFG.out.below (fun b hb => by have := HZ.out; omega) HFT.out.size), fun _ => ⟨rfl, rfl, rfl, rfl⟩, fun h => absurd rfl h⟩
            · have dz : ((kk : Int) != 0) = true := bne_iff_ne.2 (by omega)
              have HEQF : Hid (R = (7, [])) := Lib.hid (by
                rw [HRD4.out]
                unfold killM
                rw [if_pos rfl, e9, HDX.out, if_neg hkk])
              clear hkk e9
              have hst := store4 HBR6.out (.int .i64 0) (.int .u64 0) (.int .u32 0) (.slice none 0 0)
              obtain ⟨G, hG⟩ : ∃ G, ((((w6.setCell ⟨W2.heap.size, 0, none⟩ (.int .i64 0)).setCell ⟨W2.heap.size, 1, none⟩ (.int .u64 0)).setCell ⟨W2.heap.size, 2, none⟩ (.int .u32 0)).setCell ⟨W2.heap.size, 3, none⟩ (.slice none 0 0)) = G := ⟨_, rfl⟩
              rw [hG] at hst
              obtain ⟨⟨g0, g1, g2, g3⟩, _⟩ := blk4 hst.1
              have HFG := Lib.hid hst.2
              obtain ⟨⟨r0, r1, r2, r3⟩, rf0, rf1, rf2, rf3⟩ := blk4 HBR6.out
              clear hst
              go_wp2_with fail
              refine bodyPost_ret (v := .tuple #[PV.zero.agg, .int .i64 7]) (by simp [results, Try.results31, go_sem, g0, g1, g2, g3, PV.agg, PV.zero]) rfl ?_
              rw [HEQF.out]
              exact DoA.no (c := 7) (by decide) (HF6.out.trans (HFG.out.below (fun b hb => by have := HZ.out; omega) HF6.out.size))
          · have dk2 : (ok == 2) = false := beq_false_of_ne hk2
            by_cases hk3 : ok = 3
            · have dk3 : (ok == 3) = true := by rw [beq_iff_eq]; exact hk3
              have HRD4 : Hid (R = wakeM (ql.map CV.e) (i : Int) true) := Lib.hid (by rw [HRD3.out, if_neg hk2, if_pos hk3])
              clear hk1 hk2 hk3
              by_cases hkk : kk = 0
              · have dz : ((kk : Int) == 0) = true := by rw [beq_iff_eq]; omega
                have HEQF : Hid (R = (6, [])) := Lib.hid (by
                  rw [HRD4.out]
                  unfold wakeM
                  rw [if_pos rfl, e9, HDX.out, if_pos hkk])
                clear hkk e9
                have hst := store4 HBR6.out (.int .i64 0) (.int .u64 0) (.int .u32 0) (.slice none 0 0)
                obtain ⟨G, hG⟩ : ∃ G, ((((w6.setCell ⟨W2.heap.size, 0, none⟩ (.int .i64 0)).setCell ⟨W2.heap.size, 1, none⟩ (.int .u64 0)).setCell ⟨W2.heap.size, 2, none⟩ (.int .u32 0)).setCell ⟨W2.heap.size, 3, none⟩ (.slice none 0 0)) = G := ⟨_, rfl⟩
                rw [hG] at hst
                obtain ⟨⟨g0, g1, g2, g3⟩, _⟩ := blk4 hst.1
                have HFG := Lib.hid hst.2
                obtain ⟨⟨r0, r1, r2, r3⟩, rf0, rf1, rf2, rf3⟩ := blk4 HBR6.out
                clear hst
                go_wp2_with fail
                refine bodyPost_ret (v := .tuple #[PV.zero.agg, .int .i64 6]) (by simp [results, Try.results31, go_sem, g0, g1, g2, g3, PV.agg, PV.zero]) rfl ?_
                rw [HEQF.out]
                exact DoA.no (c := 6) (by decide) (HF6.out.trans (HFG.out.below (fun b hb => by have := HZ.out; omega) HF6.out.size))
              · have dz : ((kk : Int) == 0) = false := beq_false_of_ne (by omega)
                have HEQF : Hid (R = (0, (ql.set i ⟨u, 0, xA, m, xc, d⟩).map CV.e)) := Lib.hid (by
                  rw [HRD4.out]
                  unfold wakeM
                  rw [if_pos rfl, e9, HDX.out, if_neg hkk, es_set]
                  rfl)
                clear hkk e9
                have hput := HPO6.out.o.put1 HXX.out 0 (by omega)
                obtain ⟨WT, hWT⟩ : ∃ WT, w6.setCell ⟨gr, i * 3 + 1, none⟩ (.int .u32 0) = WT := ⟨_, rfl⟩
                have hfT : Fr w6 WT (fun b => b = gr) := by rw [← hWT]; exact fr_set (Fr.refl _ _) _ _
                have HOT : Hid (OwC WT S T (.slice (some ⟨gr, 0, none⟩) qn qc) qn (ql.set i ⟨u, 0, xA, m, xc, d⟩)) := Lib.hid (by rw [← hWT]; exact hput)
                have HBXT := Lib.hid (HBX6.out.keep hfT (fun e => HGS.out.2.2.1 e.symm))
                have HBRT := Lib.hid (HBR6.out.keep hfT (fun e => HGS.out.2.2.2 e.symm))
                have HFT : Hid (Below w.heap.size w WT) := Lib.hid (HF6.out.trans (hfT.below (fun b hb => by have := HSTN.out.1 _ HGS.out.1; have := HZ.out; omega) HF6.out.size))
                clear hput hfT
                obtain ⟨⟨z0, z1, z2, z3⟩, zf0, zf1, zf2, zf3⟩ := blk4 HBXT.out
                have hst := store4 HBRT.out (.int .i64 qk) (.int .u64 (qs : Int)) (.int .u32 (qx : Int)) (.slice (some ⟨gr, 0, none⟩) qn qc)
                obtain ⟨G, hG⟩ : ∃ G, ((((WT.setCell ⟨W2.heap.size, 0, none⟩ (.int .i64 qk)).setCell ⟨W2.heap.size, 1, none⟩ (.int .u64 (qs : Int))).setCell ⟨W2.heap.size, 2, none⟩ (.int .u32 (qx : Int))).setCell ⟨W2.heap.size, 3, none⟩ (.slice (some ⟨gr, 0, none⟩) qn qc)) = G := ⟨_, rfl⟩
                rw [hG] at hst
                obtain ⟨⟨g0, g1, g2, g3⟩, _⟩ := blk4 hst.1
                have HFG := Lib.hid hst.2
                obtain ⟨⟨r0, r1, r2, r3⟩, rf0, rf1, rf2, rf3⟩ := blk4 HBRT.out
                clear hst
                go_wp2_with fail
                refine bodyPost_ret (v := .tuple #[.agg #[.int .i64 qk, .int .u64 (qs : Int), .int .u32 (qx : Int), .slice (some ⟨gr, 0, none⟩) qn qc], .int .i64 0]) (by simp [results, Try.results31, go_sem, g0, g1, g2, g3]) rfl ?_
                rw [HEQF.out]
                refine ⟨⟨qk, qs, qx, (some ⟨gr, 0, none⟩), qn, qc, (ql.set i ⟨u, 0, xA, m, xc, d⟩)⟩, S, T, rfl, ⟨HOT.out.keep HFG.out (fun b hb e => by have := HSTN.out.1 b hb; have := HZ.out; omega) (fun b hb e => by have := HSTN.out.2 b hb; have := HZ.out; omega), by show qn ≤ _; omega, HPD.out.k1, HPD.out.k2, HPD.out.s, HPD.out.x⟩, fun b hb => by have := HSTN.out.1 b hb; have := HZ.out; omega, fun b hb => by have := HSTN.out.2 b hb; have := HZ.out; omega, HFT.out.trans (HFG.out.below (fun b hb => by have := HZ.out; omega) HFT.out.size), fun _ => ⟨rfl, rfl, rfl, rfl⟩, fun h => absurd rfl h⟩
            · have dk3 : (ok == 3) = false := beq_false_of_ne hk3
              have HRD4 : Hid (R = freeM qk (ql.map CV.e) (i : Int) true) := Lib.hid (by rw [HRD3.out, if_neg hk2, if_neg hk3])
              clear hk1 hk2 hk3
              rcases HK12.out with hq1 | hq2
              · have dq : (qk == 2) = false := beq_false_of_ne (by omega)
                have HRD5 : Hid (R = (0, trim ((ql.map CV.e).set i cz))) := Lib.hid (by rw [HRD4.out]; unfold freeM; rw [if_pos rfl, e9, if_neg (by omega)])
                clear hq1 e9
                have hput := HPO6.out.o.put3 hin ⟨false, 0, none, 0, 0, []⟩ (T' := T) ⟨RB.nil_, by simp only; omega, Nat.le_refl _, by simp only; omega, fun _ => rfl⟩ (fun _ _ h => h) HGS.out.2.1
                simp only [Int.ofNat_zero] at hput
                obtain ⟨WT, hWT⟩ : ∃ WT, ((w6.setCell ⟨gr, i * 3, none⟩ (.bool false)).setCell ⟨gr, i * 3 + 1, none⟩ (.int .u32 0)).setCell ⟨gr, i * 3 + 2, none⟩ (.slice none 0 0) = WT := ⟨_, rfl⟩
                rw [hWT] at hput
                have hfT : Fr w6 WT (fun b => b = gr) := by rw [← hWT]; exact fr_set (fr_set (fr_set (Fr.refl _ _) _ _) _ _) _ _
                obtain ⟨l0, hl0⟩ : ∃ l0, l0 = ql.set i ⟨false, 0, none, 0, 0, []⟩ := ⟨_, rfl⟩
                rw [← hl0] at hput
                have HL0 := Lib.hid (show l0.length = qn ∧ l0.map CV.e = (ql.map CV.e).set i cz by
                  rw [hl0]
                  exact ⟨by rw [List.length_set]; exact HLL.out, by rw [es_set]; rfl⟩)
                have HOT := Lib.hid hput
                have HBXT : Hid (Blk WT w.heap.size 26 #[.int .i64 qk, .int .u64 (qs : Int), .int .u32 (qx : Int), .slice (some ⟨gr, 0, none⟩) qn qc]) := Lib.hid (HBX6.out.keep hfT (fun e => HGS.out.2.2.1 e.symm))
                have HBRT := Lib.hid (HBR6.out.keep hfT (fun e => HGS.out.2.2.2 e.symm))
                have HFT : Hid (Below w.heap.size w WT) := Lib.hid (HF6.out.trans (hfT.below (fun b hb => by have := HSTN.out.1 _ HGS.out.1; have := HZ.out; omega) HF6.out.size))
                have HSZT := Lib.hid (show w6.heap.size ≤ WT.heap.size from hfT.size)
                obtain ⟨⟨y0, y1, y2, y3⟩, _⟩ := blk4 HBXT.out
                clear hput hfT hl0
                go_wp2_with fail
                go_loopw [] (fun wr => ∃ m : Nat, m ≤ qn ∧ Blk wr w.heap.size 26 #[.int .i64 qk, .int .u64 (qs : Int), .int .u32 (qx : Int), .slice (some ⟨gr, 0, none⟩) m qc] ∧ trimN (l0.map CV.e) m = trimN (l0.map CV.e) qn ∧ Fr WT wr (fun b => b = w.heap.size)) (fun wr => lenAt wr w.heap.size)
                case atStart => exact ⟨qn, Nat.le_refl _, HBXT.out, rfl, Fr.refl _ _⟩
                case round =>
                  obtain ⟨m, hm, hbm, htr, hfr⟩ := hrel
                  have HBXM := Lib.hid hbm
                  have HTR := Lib.hid htr
                  have HFW := Lib.hid hfr
                  have HOR := Lib.hid (HOT.out.keep hfr (fun b hb e => by have := HSTN.out.1 b hb; have := HZ.out; omega) fun b hb e => by have := HSTN.out.2 b hb; have := HZ.out; omega)
                  have HBRR := Lib.hid (HBRT.out.keep hfr (show ¬ (W2.heap.size = w.heap.size) by have := HZ.out; omega))
                  have HFR := Lib.hid (HFT.out.trans (hfr.below (fun b hb => by omega) HFT.out.size))
                  obtain ⟨⟨y0, y1, y2, y3⟩, _, _, _, yf3⟩ := blk4 hbm
                  clear hbm htr hfr
                  by_cases h0 : m = 0
                  · have d1 : decide ((m : Int) > 0) = false := decide_eq_false (by omega)
                    have d2 : decide (0 < m) = false := decide_eq_false (by omega)
                    have hstop : trimN (l0.map CV.e) m = m := by rw [h0]; rfl
                    clear h0
                    have HEQF : Hid (R = (0, (l0.take m).map CV.e)) := Lib.hid (by
                      rw [HRD5.out, ← HL0.out.2]
                      unfold trim
                      rw [List.length_map, HL0.out.1, ← HTR.out, hstop, List.map_take])
                    have HOM : Hid (OwC wr S T (.slice (some ⟨gr, 0, none⟩) m qc) m (l0.take m)) := Lib.hid (HOR.out.short hm)
                    have hm3 : m ≤ 300 := by omega
                    clear hstop
                    obtain ⟨⟨z0, z1, z2, z3⟩, zf0, zf1, zf2, zf3⟩ := blk4 HBXM.out
                    have hst := store4 HBRR.out (.int .i64 qk) (.int .u64 (qs : Int)) (.int .u32 (qx : Int)) (.slice (some ⟨gr, 0, none⟩) m qc)
                    obtain ⟨G, hG⟩ : ∃ G, ((((wr.setCell ⟨W2.heap.size, 0, none⟩ (.int .i64 qk)).setCell ⟨W2.heap.size, 1, none⟩ (.int .u64 (qs : Int))).setCell ⟨W2.heap.size, 2, none⟩ (.int .u32 (qx : Int))).setCell ⟨W2.heap.size, 3, none⟩ (.slice (some ⟨gr, 0, none⟩) m qc)) = G := ⟨_, rfl⟩
                    rw [hG] at hst
                    obtain ⟨⟨g0, g1, g2, g3⟩, _⟩ := blk4 hst.1
                    have HFG := Lib.hid hst.2
                    obtain ⟨⟨r0, r1, r2, r3⟩, rf0, rf1, rf2, rf3⟩ := blk4 HBRR.out
                    clear hst
                    go_wp2_with fail
                    refine bodyPost_ret (v := .tuple #[.agg #[.int .i64 qk, .int .u64 (qs : Int), .int .u32 (qx : Int), .slice (some ⟨gr, 0, none⟩) m qc], .int .i64 0]) (by simp [results, Try.results31, go_sem, g0, g1, g2, g3]) rfl ?_
                    rw [HEQF.out]
                    refine ⟨⟨qk, qs, qx, (some ⟨gr, 0, none⟩), m, qc, (l0.take m)⟩, S, T, rfl, ⟨HOM.out.keep HFG.out (fun b hb e => by have := HSTN.out.1 b hb; have := HZ.out; omega) (fun b hb e => by have := HSTN.out.2 b hb; have := HZ.out; omega), by show m ≤ _; omega, HPD.out.k1, HPD.out.k2, HPD.out.s, HPD.out.x⟩, fun b hb => by have := HSTN.out.1 b hb; have := HZ.out; omega, fun b hb => by have := HSTN.out.2 b hb; have := HZ.out; omega, HFR.out.trans (HFG.out.below (fun b hb => by have := HZ.out; omega) HFR.out.size), fun _ => ⟨rfl, rfl, rfl, rfl⟩, fun h => absurd rfl h⟩
                  · obtain ⟨k, hk⟩ : ∃ k, m = k + 1 := ⟨m - 1, by omega⟩
                    have d1 : decide ((m : Int) > 0) = true := decide_eq_true (by omega)
                    have d2 : decide (0 < m) = true := decide_eq_true (by omega)
                    have hw1 : IntKind.i64.wrap ((m : Int) - 1) = (k : Int) := by rw [IntWalk.i64_in _ (by omega)]; omega
                    have hwk : IntKind.i64.wrap (k : Int) = (k : Int) := IntWalk.i64_in _ (by omega)
                    have hkm : k < m := by omega
                    have hkI : (k : Int) < (m : Int) := by omega
                    have HK := Lib.hid hk
                    have hkl : k < l0.length := by have := HL0.out.1; omega
                    obtain ⟨gq, cq, eq, hrow, _, _⟩ := HOR.out.row (by omega)
                    injection eq with eq1 _ eq3
                    injection eq1 with eq1
                    injection eq1 with eq1
                    subst eq1 eq3
                    obtain ⟨ca, ca1, ca2⟩ := ccs_at l0 k l0[k] (List.getElem?_eq_getElem hkl)
                    have q0 := hrow.cell (j := k * 3) (by omega)
                    rw [ca] at q0
                    obtain ⟨uu, hu⟩ : ∃ uu, uu = l0[k].u := ⟨_, rfl⟩
                    rw [← hu] at q0
                    have HU := Lib.hid (show ((l0.map CV.e).getD k cz).u = uu by rw [getD_lt (by simpa using hkl), hu, List.getElem_map]; rfl)
                    have hkc : k ≤ qc := by obtain ⟨_, _, h, _⟩ := hrow; omega
                    have hkcI : (k : Int) ≤ (qc : Int) := by omega
                    clear hk hrow ca ca1 ca2 hu hkl
                    cases uu with
                    | true =>
                      have hstop : trimN (l0.map CV.e) m = m := by rw [HK.out, trimN_succ, HU.out, if_pos rfl]
                      have HEQF : Hid (R = (0, (l0.take m).map CV.e)) := Lib.hid (by
                        rw [HRD5.out, ← HL0.out.2]
                        unfold trim
                        rw [List.length_map, HL0.out.1, ← HTR.out, hstop, List.map_take])
                      have HOM : Hid (OwC wr S T (.slice (some ⟨gr, 0, none⟩) m qc) m (l0.take m)) := Lib.hid (HOR.out.short hm)
                      have hm3 : m ≤ 300 := by omega
                      clear hstop
                      obtain ⟨⟨z0, z1, z2, z3⟩, zf0, zf1, zf2, zf3⟩ := blk4 HBXM.out
                      have hst := store4 HBRR.out (.int .i64 qk) (.int .u64 (qs : Int)) (.int .u32 (qx : Int)) (.slice (some ⟨gr, 0, none⟩) m qc)
                      obtain ⟨G, hG⟩ : ∃ G, ((((wr.setCell ⟨W2.heap.size, 0, none⟩ (.int .i64 qk)).setCell ⟨W2.heap.size, 1, none⟩ (.int .u64 (qs : Int))).setCell ⟨W2.heap.size, 2, none⟩ (.int .u32 (qx : Int))).setCell ⟨W2.heap.size, 3, none⟩ (.slice (some ⟨gr, 0, none⟩) m qc)) = G := ⟨_, rfl⟩
                      rw [hG] at hst
                      obtain ⟨⟨g0, g1, g2, g3⟩, _⟩ := blk4 hst.1
                      have HFG := Lib.hid hst.2
                      obtain ⟨⟨r0, r1, r2, r3⟩, rf0, rf1, rf2, rf3⟩ := blk4 HBRR.out
                      clear hst
                      go_wp2_with fail
                      refine bodyPost_ret (v := .tuple #[.agg #[.int .i64 qk, .int .u64 (qs : Int), .int .u32 (qx : Int), .slice (some ⟨gr, 0, none⟩) m qc], .int .i64 0]) (by simp [results, Try.results31, go_sem, g0, g1, g2, g3]) rfl ?_
                      rw [HEQF.out]
                      refine ⟨⟨qk, qs, qx, (some ⟨gr, 0, none⟩), m, qc, (l0.take m)⟩, S, T, rfl, ⟨HOM.out.keep HFG.out (fun b hb e => by have := HSTN.out.1 b hb; have := HZ.out; omega) (fun b hb e => by have := HSTN.out.2 b hb; have := HZ.out; omega), by show m ≤ _; omega, HPD.out.k1, HPD.out.k2, HPD.out.s, HPD.out.x⟩, fun b hb => by have := HSTN.out.1 b hb; have := HZ.out; omega, fun b hb => by have := HSTN.out.2 b hb; have := HZ.out; omega, HFR.out.trans (HFG.out.below (fun b hb => by have := HZ.out; omega) HFR.out.size), fun _ => ⟨rfl, rfl, rfl, rfl⟩, fun h => absurd rfl h⟩
                    | false =>
                      obtain ⟨WN, hWN⟩ : ∃ WN, wr.setCell ⟨w.heap.size, 3, none⟩ (.slice (some ⟨gr, 0, none⟩) k qc) = WN := ⟨_, rfl⟩
                      have HBN : Hid (Blk WN w.heap.size 26 #[.int .i64 qk, .int .u64 (qs : Int), .int .u32 (qx : Int), .slice (some ⟨gr, 0, none⟩) k qc]) := Lib.hid (by rw [← hWN]; exact HBXM.out.set_ 3 _)
                      have HFN : Hid (Fr WT WN (fun b => b = w.heap.size)) := Lib.hid (by rw [← hWN]; exact fr_set HFW.out _ _)
                      go_wp2_with fail
                      go_roundw
                      case rel =>
                        refine ⟨k, by have := HK.out; omega, HBN.out, ?_, HFN.out⟩
                        have h1 := HTR.out
                        rw [HK.out, trimN_succ, HU.out, if_neg (by simp)] at h1
                        exact h1
                      case measure =>
                        rw [lenAt_of (n := k) (c := qc) (A := some ⟨gr, 0, none⟩) ((HBN.out.cell 3).trans (by simp)), lenAt_of (n := m) (c := qc) (A := some ⟨gr, 0, none⟩) ((HBXM.out.cell 3).trans (by simp))]
                        have := HK.out
                        omega
              · have dq : (qk == 2) = true := by rw [beq_iff_eq]; exact hq2
                have HEQF : Hid (R = (0, (ql.take i ++ ql.drop (i + 1)).map CV.e)) := Lib.hid (by rw [HRD4.out]; unfold freeM; rw [if_pos rfl, e9, if_pos hq2, List.map_append, List.map_take, List.map_drop])
                clear hq2 e9
                obtain ⟨j, hj⟩ : ∃ j, j = i + 1 := ⟨_, rfl⟩
                obtain ⟨k, hk⟩ : ∃ k, k = qn - 1 := ⟨_, rfl⟩
                rw [← hj] at HEQF
                obtain ⟨N1, hra, hra0, hown, hnc⟩ := cut_row w6.drew S T gr qn qc ql HPO6.out.o.drew (by omega) i j k hin hj hk
                obtain ⟨WA, hWA⟩ : ∃ WA, WA = w6.drew.setRow gr N1 := ⟨_, rfl⟩
                rw [← hWA] at hra hra0 hown
                have hfA : Fr w6 WA (fun b => b = gr) := by rw [hWA]; exact (Fr.refl w6 _).drew.trans (fr_row _ _ _) fun b hb => Or.inl hb
                have HBXA : Hid (Blk WA w.heap.size 26 #[.int .i64 qk, .int .u64 (qs : Int), .int .u32 (qx : Int), .slice (some ⟨gr, 0, none⟩) qn qc]) := Lib.hid (HBX6.out.keep hfA (fun e => HGS.out.2.2.1 e.symm))
                obtain ⟨WT, hWT⟩ : ∃ WT, WA.setCell ⟨w.heap.size, 3, none⟩ (.slice (some ⟨gr, 0, none⟩) k qc) = WT := ⟨_, rfl⟩
                have hfT : Fr WA WT (fun b => b = w.heap.size) := by rw [← hWT]; exact fr_set (Fr.refl _ _) _ _
                have HBXT : Hid (Blk WT w.heap.size 26 #[.int .i64 qk, .int .u64 (qs : Int), .int .u32 (qx : Int), .slice (some ⟨gr, 0, none⟩) k qc]) := Lib.hid (by rw [← hWT]; exact HBXA.out.set_ 3 _)
                have HBRT := Lib.hid ((HBR6.out.keep hfA (fun e => HGS.out.2.2.2 e.symm)).keep hfT (show ¬ (W2.heap.size = w.heap.size) by have := HZ.out; omega))
                have HFT : Hid (Below w.heap.size w WT) := Lib.hid ((HF6.out.trans (hfA.below (fun b hb => by have := HSTN.out.1 _ HGS.out.1; have := HZ.out; omega) HF6.out.size)).trans (hfT.below (fun b hb => by omega) (by have := HF6.out.size; have := hfA.size; omega)))
                have HOT : Hid (OwC WT S T (.slice (some ⟨gr, 0, none⟩) k qc) k (ql.take i ++ ql.drop j)) := Lib.hid (hown.keep hfT (fun b hb e => by have := HSTN.out.1 b hb; have := HZ.out; omega) fun b hb e => by have := HSTN.out.2 b hb; have := HZ.out; omega)
                have HRA := Lib.hid hra
                have HRA0 := Lib.hid hra0
                have b1 : (i : Int) ≤ (j : Int) := by omega
                have b2 : (j : Int) ≤ (qn : Int) := by omega
                have b3 : (qn : Int) ≤ (qc : Int) := by omega
                have b4 : i ≤ j := by omega
                have b5 : j ≤ qn := by omega
                have b6 : i ≤ qc := by omega
                have b7 : (i : Int) ≤ (qc : Int) := by omega
                have b8 : (j : Int) ≤ (qc : Int) := by omega
                have b9 : i ≤ qn := by omega
                have wj : IntKind.i64.wrap (j : Int) = (j : Int) := IntWalk.i64_in _ (by omega)
                have wij : IntKind.i64.wrap ((i : Int) + 1) = (j : Int) := by rw [IntWalk.i64_in _ (by omega)]; omega
                have yd3 : World.cell? (World.drew w6) ⟨w.heap.size, 3, none⟩ = _ := y3
                have hk3 : k ≤ 300 := by omega
                clear hj hk hra hra0 hown hnc hWA hfA hfT
                by_cases hcj : qc = j
                · have HRA1 := Lib.hid (HRA0.out hcj)
                  have hcjT : (qc = j) = True := eq_true hcj
                  clear hcj
                  go_upto_region 17 with fail
                  refine wp_region_held_drew (S := fun _ => True) (by kernel_rfl) trivial (fun hS => ?_)
                  refine wpAnyH_take (i := 0) (v := ?_) rfl (by kernel_rfl) (by kernel_rfl) (by kernel_rfl) (fun _ _ _ h => h) (Or.inl ⟨by rfl, ?_⟩) hS ?_
                  rotate_left
                  · (intro wq hSw; go_simp; try with_reducible rfl)
                  refine wpAnyH_take (i := 2) (v := ?_) rfl (by kernel_rfl) (by kernel_rfl) (by kernel_rfl) (fun _ _ _ h => h) (Or.inl ⟨by rfl, ?_⟩) hS ?_
                  rotate_left
                  · (intro wq hSw; go_simp; try with_reducible rfl)
                  simp only [List.getElem_toArray, List.getElem_cons_succ, List.getElem_cons_zero, Act.put, List.setIfInBounds_toArray, List.set_cons_succ, List.set_cons_zero]
                  refine wpAnyH_take (i := 4) (v := ?_) rfl (by kernel_rfl) (by kernel_rfl) (by kernel_rfl) (fun _ _ _ h => h) (Or.inl ⟨by rfl, ?_⟩) hS ?_
                  rotate_left
                  · (intro wq hSw; go_simp; try with_reducible rfl)
                  simp only [List.getElem_toArray, List.getElem_cons_succ, List.getElem_cons_zero, Act.put, List.setIfInBounds_toArray, List.set_cons_succ, List.set_cons_zero]
                  refine wpAnyH_take (i := 6) (v := ?_) rfl (by kernel_rfl) (by kernel_rfl) (by kernel_rfl) (fun _ _ _ h => h) (Or.inl ⟨by rfl, ?_⟩) hS ?_
                  rotate_left
                  · (intro wq hSw; go_simp; try with_reducible rfl)
                  simp only [List.getElem_toArray, List.getElem_cons_succ, List.getElem_cons_zero, Act.put, List.setIfInBounds_toArray, List.set_cons_succ, List.set_cons_zero]
                  refine wpAnyH_take (i := 7) (v := ?_) rfl (by kernel_rfl) (by kernel_rfl) (by kernel_rfl) (fun _ _ _ h => h) (Or.inl ⟨by rfl, ?_⟩) hS ?_
                  rotate_left
                  · (intro wq hSw; go_simp; try with_reducible rfl)
                  simp only [List.getElem_toArray, List.getElem_cons_succ, List.getElem_cons_zero, Act.put, List.setIfInBounds_toArray, List.set_cons_succ, List.set_cons_zero]
                  refine wpAnyH_ready (rs := [1, 5]) (by kernel_rfl) (by simp) ?_
                  refine AllReadyH.cons rfl (fun K hK => ?_) (AllReadyH.cons rfl (fun K hK => ?_) AllReadyH.nil)
                  · go_simp
                    refine hK.out _ _ trivial (fun hS => ?_)
                    clear hK K
                    refine wpAnyH_take (i := 3) (v := ?_) rfl (by kernel_rfl) (by kernel_rfl) (by kernel_rfl) (fun _ _ _ h => h) (Or.inl ⟨by rfl, ?_⟩) hS ?_
                    rotate_left
                    · (intro wq hSw; go_simp; try with_reducible rfl)
                    simp only [List.getElem_toArray, List.getElem_cons_succ, List.getElem_cons_zero, Act.put, List.setIfInBounds_toArray, List.set_cons_succ, List.set_cons_zero]
                    refine wpAnyH_ready (rs := [5]) (by kernel_rfl) (by simp) ?_
                    refine AllReadyH.cons rfl (fun K hK => ?_) AllReadyH.nil
                    go_simp
                    refine hK.out _ _ trivial (fun hS => ?_)
                    clear hK K
                    refine wpAnyH_take (i := 8) (v := ?_) rfl (by kernel_rfl) (by kernel_rfl) (by kernel_rfl) (fun _ _ _ h => h) (Or.inl ⟨by rfl, ?_⟩) hS ?_
                    rotate_left
                    · (intro wq hSw; go_simp; try with_reducible rfl)
                    simp only [List.getElem_toArray, List.getElem_cons_succ, List.getElem_cons_zero, Act.put, List.setIfInBounds_toArray, List.set_cons_succ, List.set_cons_zero]
                    refine wpAnyH_ready (rs := [9]) (by kernel_rfl) (by simp) ?_
                    refine AllReadyH.cons rfl (fun K hK => ?_) AllReadyH.nil
                    refine step_append_at rfl (.tmp 71) (.tmp 76) rfl _ _ (by rfl) (by rfl) (HRA1.out _ _ _ rfl) ?_
                    refine hK.out _ _ trivial (fun hS => ?_)
                    clear hK K
                    obtain ⟨⟨y0, y1, y2, y3⟩, yf0, yf1, yf2, yf3⟩ := blk4 HBXA.out
                    refine wpAnyH_take (i := 10) (v := ?_) rfl (by kernel_rfl) (by kernel_rfl) (by kernel_rfl) (fun _ _ _ h => h) (Or.inl ⟨by rfl, ?_⟩) hS ?_
                    rotate_left
                    · (intro wq hSw; go_simp; try with_reducible rfl)
                    simp only [List.getElem_toArray, List.getElem_cons_succ, List.getElem_cons_zero, Act.put, List.setIfInBounds_toArray, List.set_cons_succ, List.set_cons_zero]
                    refine wpAnyH_ready (rs := [11]) (by kernel_rfl) (by simp) ?_
                    refine AllReadyH.cons rfl (fun K hK => ?_) AllReadyH.nil
                    go_simp
                    refine hK.out _ _ trivial (fun hS => ?_)
                    clear hK K
                    refine wpAnyH_done (by kernel_rfl) ?_ _
                    clear hS
                    obtain ⟨⟨z0, z1, z2, z3⟩, zf0, zf1, zf2, zf3⟩ := blk4 HBXT.out
                    have hst := store4 HBRT.out (.int .i64 qk) (.int .u64 (qs : Int)) (.int .u32 (qx : Int)) (.slice (some ⟨gr, 0, none⟩) k qc)
                    obtain ⟨G, hG⟩ : ∃ G, ((((WT.setCell ⟨W2.heap.size, 0, none⟩ (.int .i64 qk)).setCell ⟨W2.heap.size, 1, none⟩ (.int .u64 (qs : Int))).setCell ⟨W2.heap.size, 2, none⟩ (.int .u32 (qx : Int))).setCell ⟨W2.heap.size, 3, none⟩ (.slice (some ⟨gr, 0, none⟩) k qc)) = G := ⟨_, rfl⟩
                    rw [hG] at hst
                    obtain ⟨⟨g0, g1, g2, g3⟩, _⟩ := blk4 hst.1
                    have HFG := Lib.hid hst.2
                    obtain ⟨⟨r0, r1, r2, r3⟩, rf0, rf1, rf2, rf3⟩ := blk4 HBRT.out
                    clear hst
                    go_wp2_with fail
                    refine bodyPost_ret (v := .tuple #[.agg #[.int .i64 qk, .int .u64 (qs : Int), .int .u32 (qx : Int), .slice (some ⟨gr, 0, none⟩) k qc], .int .i64 0]) (by simp [results, Try.results31, go_sem, g0, g1, g2, g3]) rfl ?_
                    rw [HEQF.out]
                    refine ⟨⟨qk, qs, qx, (some ⟨gr, 0, none⟩), k, qc, (ql.take i ++ ql.drop j)⟩, S, T, rfl, ⟨HOT.out.keep HFG.out (fun b hb e => by have := HSTN.out.1 b hb; have := HZ.out; omega) (fun b hb e => by have := HSTN.out.2 b hb; have := HZ.out; omega), by show k ≤ _; omega, HPD.out.k1, HPD.out.k2, HPD.out.s, HPD.out.x⟩, fun b hb => by have := HSTN.out.1 b hb; have := HZ.out; omega, fun b hb => by have := HSTN.out.2 b hb; have := HZ.out; omega, HFT.out.trans (HFG.out.below (fun b hb => by have := HZ.out; omega) HFT.out.size), fun _ => ⟨rfl, rfl, rfl, rfl⟩, fun h => absurd rfl h⟩
                  · go_simp
                    refine hK.out _ _ trivial (fun hS => ?_)
                    clear hK K
                    refine wpAnyH_take (i := 8) (v := ?_) rfl (by kernel_rfl) (by kernel_rfl) (by kernel_rfl) (fun _ _ _ h => h) (Or.inl ⟨by rfl, ?_⟩) hS ?_
                    rotate_left
                    · (intro wq hSw; go_simp; try with_reducible rfl)
                    simp only [List.getElem_toArray, List.getElem_cons_succ, List.getElem_cons_zero, Act.put, List.setIfInBounds_toArray, List.set_cons_succ, List.set_cons_zero]
                    refine wpAnyH_ready (rs := [1]) (by kernel_rfl) (by simp) ?_
                    refine AllReadyH.cons rfl (fun K hK => ?_) AllReadyH.nil
                    go_simp
                    refine hK.out _ _ trivial (fun hS => ?_)
                    clear hK K
                    refine wpAnyH_take (i := 3) (v := ?_) rfl (by kernel_rfl) (by kernel_rfl) (by kernel_rfl) (fun _ _ _ h => h) (Or.inl ⟨by rfl, ?_⟩) hS ?_
                    rotate_left
                    · (intro wq hSw; go_simp; try with_reducible rfl)
                    simp only [List.getElem_toArray, List.getElem_cons_succ, List.getElem_cons_zero, Act.put, List.setIfInBounds_toArray, List.set_cons_succ, List.set_cons_zero]
                    refine wpAnyH_ready (rs := [9]) (by kernel_rfl) (by simp) ?_
                    refine AllReadyH.cons rfl (fun K hK => ?_) AllReadyH.nil
                    refine step_append_at rfl (.tmp 71) (.tmp 76) rfl _ _ (by rfl) (by rfl) (HRA1.out _ _ _ rfl) ?_
                    refine hK.out _ _ trivial (fun hS => ?_)
                    clear hK K
                    obtain ⟨⟨y0, y1, y2, y3⟩, yf0, yf1, yf2, yf3⟩ := blk4 HBXA.out
                    refine wpAnyH_take (i := 10) (v := ?_) rfl (by kernel_rfl) (by kernel_rfl) (by kernel_rfl) (fun _ _ _ h => h) (Or.inl ⟨by rfl, ?_⟩) hS ?_
                    rotate_left
                    · (intro wq hSw; go_simp; try with_reducible rfl)
                    simp only [List.getElem_toArray, List.getElem_cons_succ, List.getElem_cons_zero, Act.put, List.setIfInBounds_toArray, List.set_cons_succ, List.set_cons_zero]
                    refine wpAnyH_ready (rs := [11]) (by kernel_rfl) (by simp) ?_
                    refine AllReadyH.cons rfl (fun K hK => ?_) AllReadyH.nil
                    go_simp
                    refine hK.out _ _ trivial (fun hS => ?_)
                    clear hK K
                    refine wpAnyH_done (by kernel_rfl) ?_ _
                    clear hS
                    obtain ⟨⟨z0, z1, z2, z3⟩, zf0, zf1, zf2, zf3⟩ := blk4 HBXT.out
                    have hst := store4 HBRT.out (.int .i64 qk) (.int .u64 (qs : Int)) (.int .u32 (qx : Int)) (.slice (some ⟨gr, 0, none⟩) k qc)
                    obtain ⟨G, hG⟩ : ∃ G, ((((WT.setCell ⟨W2.heap.size, 0, none⟩ (.int .i64 qk)).setCell ⟨W2.heap.size, 1, none⟩ (.int .u64 (qs : Int))).setCell ⟨W2.heap.size, 2, none⟩ (.int .u32 (qx : Int))).setCell ⟨W2.heap.size, 3, none⟩ (.slice (some ⟨gr, 0, none⟩) k qc)) = G := ⟨_, rfl⟩
                    rw [hG] at hst
                    obtain ⟨⟨g0, g1, g2, g3⟩, _⟩ := blk4 hst.1
                    have HFG := Lib.hid hst.2
                    obtain ⟨⟨r0, r1, r2, r3⟩, rf0, rf1, rf2, rf3⟩ := blk4 HBRT.out
                    clear hst
                    go_wp2_with fail
                    refine bodyPost_ret (v := .tuple #[.agg #[.int .i64 qk, .int .u64 (qs : Int), .int .u32 (qx : Int), .slice (some ⟨gr, 0, none⟩) k qc], .int .i64 0]) (by simp [results, Try.results31, go_sem, g0, g1, g2, g3]) rfl ?_
                    rw [HEQF.out]
                    refine ⟨⟨qk, qs, qx, (some ⟨gr, 0, none⟩), k, qc, (ql.take i ++ ql.drop j)⟩, S, T, rfl, ⟨HOT.out.keep HFG.out (fun b hb e => by have := HSTN.out.1 b hb; have := HZ.out; omega) (fun b hb e => by have := HSTN.out.2 b hb; have := HZ.out; omega), by show k ≤ _; omega, HPD.out.k1, HPD.out.k2, HPD.out.s, HPD.out.x⟩, fun b hb => by have := HSTN.out.1 b hb; have := HZ.out; omega, fun b hb => by have := HSTN.out.2 b hb; have := HZ.out; omega, HFT.out.trans (HFG.out.below (fun b hb => by have := HZ.out; omega) HFT.out.size), fun _ => ⟨rfl, rfl, rfl, rfl⟩, fun h => absurd rfl h⟩
                · go_upto_region 17 with fail
                  refine wp_region_held_drew (S := fun _ => True) (by kernel_rfl) trivial (fun hS => ?_)
                  refine wpAnyH_take (i := 0) (v := ?_) rfl (by kernel_rfl) (by kernel_rfl) (by kernel_rfl) (fun _ _ _ h => h) (Or.inl ⟨by rfl, ?_⟩) hS ?_
                  rotate_left
                  · (intro wq hSw; go_simp; try with_reducible rfl)
                  refine wpAnyH_take (i := 2) (v := ?_) rfl (by kernel_rfl) (by kernel_rfl) (by kernel_rfl) (fun _ _ _ h => h) (Or.inl ⟨by rfl, ?_⟩) hS ?_
                  rotate_left
                  · (intro wq hSw; go_simp; try with_reducible rfl)
                  simp only [List.getElem_toArray, List.getElem_cons_succ, List.getElem_cons_zero, Act.put, List.setIfInBounds_toArray, List.set_cons_succ, List.set_cons_zero]
                  refine wpAnyH_take (i := 4) (v := ?_) rfl (by kernel_rfl) (by kernel_rfl) (by kernel_rfl) (fun _ _ _ h => h) (Or.inl ⟨by rfl, ?_⟩) hS ?_
                  rotate_left
                  · (intro wq hSw; go_simp; try with_reducible rfl)
                  simp only [List.getElem_toArray, List.getElem_cons_succ, List.getElem_cons_zero, Act.put, List.setIfInBounds_toArray, List.set_cons_succ, List.set_cons_zero]
                  refine wpAnyH_take (i := 6) (v := ?_) rfl (by kernel_rfl) (by kernel_rfl) (by kernel_rfl) (fun _ _ _ h => h) (Or.inl ⟨by rfl, ?_⟩) hS ?_
                  rotate_left
                  · (intro wq hSw; go_simp; try with_reducible rfl)
                  simp only [List.getElem_toArray, List.getElem_cons_succ, List.getElem_cons_zero, Act.put, List.setIfInBounds_toArray, List.set_cons_succ, List.set_cons_zero]
                  refine wpAnyH_take (i := 7) (v := ?_) rfl (by kernel_rfl) (by kernel_rfl) (by kernel_rfl) (fun _ _ _ h => h) (Or.inl ⟨by rfl, ?_⟩) hS ?_
                  rotate_left
                  · (intro wq hSw; go_simp; try with_reducible rfl)
                  simp only [List.getElem_toArray, List.getElem_cons_succ, List.getElem_cons_zero, Act.put, List.setIfInBounds_toArray, List.set_cons_succ, List.set_cons_zero]
                  refine wpAnyH_ready (rs := [1, 5]) (by kernel_rfl) (by simp) ?_
                  refine AllReadyH.cons rfl (fun K hK => ?_) (AllReadyH.cons rfl (fun K hK => ?_) AllReadyH.nil)
                  · go_simp
                    refine hK.out _ _ trivial (fun hS => ?_)
                    clear hK K
                    refine wpAnyH_take (i := 3) (v := ?_) rfl (by kernel_rfl) (by kernel_rfl) (by kernel_rfl) (fun _ _ _ h => h) (Or.inl ⟨by rfl, ?_⟩) hS ?_
                    rotate_left
                    · (intro wq hSw; go_simp; try with_reducible rfl)
                    simp only [List.getElem_toArray, List.getElem_cons_succ, List.getElem_cons_zero, Act.put, List.setIfInBounds_toArray, List.set_cons_succ, List.set_cons_zero]
                    refine wpAnyH_ready (rs := [5]) (by kernel_rfl) (by simp) ?_
                    refine AllReadyH.cons rfl (fun K hK => ?_) AllReadyH.nil
                    go_simp
                    refine hK.out _ _ trivial (fun hS => ?_)
                    clear hK K
                    refine wpAnyH_take (i := 8) (v := ?_) rfl (by kernel_rfl) (by kernel_rfl) (by kernel_rfl) (fun _ _ _ h => h) (Or.inl ⟨by rfl, ?_⟩) hS ?_
                    rotate_left
                    · (intro wq hSw; go_simp; try with_reducible rfl)
                    simp only [List.getElem_toArray, List.getElem_cons_succ, List.getElem_cons_zero, Act.put, List.setIfInBounds_toArray, List.set_cons_succ, List.set_cons_zero]
                    refine wpAnyH_ready (rs := [9]) (by kernel_rfl) (by simp) ?_
                    refine AllReadyH.cons rfl (fun K hK => ?_) AllReadyH.nil
                    refine step_append_at rfl (.tmp 71) (.tmp 76) rfl _ _ (by rfl) (by rfl) (HRA.out _) ?_
                    refine hK.out _ _ trivial (fun hS => ?_)
                    clear hK K
                    obtain ⟨⟨y0, y1, y2, y3⟩, yf0, yf1, yf2, yf3⟩ := blk4 HBXA.out
                    refine wpAnyH_take (i := 10) (v := ?_) rfl (by kernel_rfl) (by kernel_rfl) (by kernel_rfl) (fun _ _ _ h => h) (Or.inl ⟨by rfl, ?_⟩) hS ?_
                    rotate_left
                    · (intro wq hSw; go_simp; try with_reducible rfl)
                    simp only [List.getElem_toArray, List.getElem_cons_succ, List.getElem_cons_zero, Act.put, List.setIfInBounds_toArray, List.set_cons_succ, List.set_cons_zero]
                    refine wpAnyH_ready (rs := [11]) (by kernel_rfl) (by simp) ?_
                    refine AllReadyH.cons rfl (fun K hK => ?_) AllReadyH.nil
                    go_simp
                    refine hK.out _ _ trivial (fun hS => ?_)
                    clear hK K
                    refine wpAnyH_done (by kernel_rfl) ?_ _
                    clear hS
                    obtain ⟨⟨z0, z1, z2, z3⟩, zf0, zf1, zf2, zf3⟩ := blk4 HBXT.out
                    have hst := store4 HBRT.out (.int .i64 qk) (.int .u64 (qs : Int)) (.int .u32 (qx : Int)) (.slice (some ⟨gr, 0, none⟩) k qc)
                    obtain ⟨G, hG⟩ : ∃ G, ((((WT.setCell ⟨W2.heap.size, 0, none⟩ (.int .i64 qk)).setCell ⟨W2.heap.size, 1, none⟩ (.int .u64 (qs : Int))).setCell ⟨W2.heap.size, 2, none⟩ (.int .u32 (qx : Int))).setCell ⟨W2.heap.size, 3, none⟩ (.slice (some ⟨gr, 0, none⟩) k qc)) = G := ⟨_, rfl⟩
                    rw [hG] at hst
                    obtain ⟨⟨g0, g1, g2, g3⟩, _⟩ := blk4 hst.1
                    have HFG := Lib.hid hst.2
                    obtain ⟨⟨r0, r1, r2, r3⟩, rf0, rf1, rf2, rf3⟩ := blk4 HBRT.out
                    clear hst
                    go_wp2_with fail
                    refine bodyPost_ret (v := .tuple #[.agg #[.int .i64 qk, .int .u64 (qs : Int), .int .u32 (qx : Int), .slice (some ⟨gr, 0, none⟩) k qc], .int .i64 0]) (by simp [results, Try.results31, go_sem, g0, g1, g2, g3]) rfl ?_
                    rw [HEQF.out]
                    refine ⟨⟨qk, qs, qx, (some ⟨gr, 0, none⟩), k, qc, (ql.take i ++ ql.drop j)⟩, S, T, rfl, ⟨HOT.out.keep HFG.out (fun b hb e => by have := HSTN.out.1 b hb; have := HZ.out; omega) (fun b hb e => by have := HSTN.out.2 b hb; have := HZ.out; omega), by show k ≤ _; omega, HPD.out.k1, HPD.out.k2, HPD.out.s, HPD.out.x⟩, fun b hb => by have := HSTN.out.1 b hb; have := HZ.out; omega, fun b hb => by have := HSTN.out.2 b hb; have := HZ.out; omega, HFT.out.trans (HFG.out.below (fun b hb => by have := HZ.out; omega) HFT.out.size), fun _ => ⟨rfl, rfl, rfl, rfl⟩, fun h => absurd rfl h⟩
                  · go_simp
                    refine hK.out _ _ trivial (fun hS => ?_)
                    clear hK K
                    refine wpAnyH_take (i := 8) (v := ?_) rfl (by kernel_rfl) (by kernel_rfl) (by kernel_rfl) (fun _ _ _ h => h) (Or.inl ⟨by rfl, ?_⟩) hS ?_
                    rotate_left
                    · (intro wq hSw; go_simp; try with_reducible rfl)
                    simp only [List.getElem_toArray, List.getElem_cons_succ, List.getElem_cons_zero, Act.put, List.setIfInBounds_toArray, List.set_cons_succ, List.set_cons_zero]
                    refine wpAnyH_ready (rs := [1]) (by kernel_rfl) (by simp) ?_
                    refine AllReadyH.cons rfl (fun K hK => ?_) AllReadyH.nil
                    go_simp
                    refine hK.out _ _ trivial (fun hS => ?_)
                    clear hK K
                    refine wpAnyH_take (i := 3) (v := ?_) rfl (by kernel_rfl) (by kernel_rfl) (by kernel_rfl) (fun _ _ _ h => h) (Or.inl ⟨by rfl, ?_⟩) hS ?_
                    rotate_left
                    · (intro wq hSw; go_simp; try with_reducible rfl)
                    simp only [List.getElem_toArray, List.getElem_cons_succ, List.getElem_cons_zero, Act.put, List.setIfInBounds_toArray, List.set_cons_succ, List.set_cons_zero]
                    refine wpAnyH_ready (rs := [9]) (by kernel_rfl) (by simp) ?_
                    refine AllReadyH.cons rfl (fun K hK => ?_) AllReadyH.nil
                    refine step_append_at rfl (.tmp 71) (.tmp 76) rfl _ _ (by rfl) (by rfl) (HRA.out _) ?_
                    refine hK.out _ _ trivial (fun hS => ?_)
                    clear hK K
                    obtain ⟨⟨y0, y1, y2, y3⟩, yf0, yf1, yf2, yf3⟩ := blk4 HBXA.out
                    refine wpAnyH_take (i := 10) (v := ?_) rfl (by kernel_rfl) (by kernel_rfl) (by kernel_rfl) (fun _ _ _ h => h) (Or.inl ⟨by rfl, ?_⟩) hS ?_
                    rotate_left
                    · (intro wq hSw; go_simp; try with_reducible rfl)
                    simp only [List.getElem_toArray, List.getElem_cons_succ, List.getElem_cons_zero, Act.put, List.setIfInBounds_toArray, List.set_cons_succ, List.set_cons_zero]
                    refine wpAnyH_ready (rs := [11]) (by kernel_rfl) (by simp) ?_
                    refine AllReadyH.cons rfl (fun K hK => ?_) AllReadyH.nil
                    go_simp
                    refine hK.out _ _ trivial (fun hS => ?_)
                    clear hK K
                    refine wpAnyH_done (by kernel_rfl) ?_ _
                    clear hS
                    obtain ⟨⟨z0, z1, z2, z3⟩, zf0, zf1, zf2, zf3⟩ := blk4 HBXT.out
                    have hst := store4 HBRT.out (.int .i64 qk) (.int .u64 (qs : Int)) (.int .u32 (qx : Int)) (.slice (some ⟨gr, 0, none⟩) k qc)
                    obtain ⟨G, hG⟩ : ∃ G, ((((WT.setCell ⟨W2.heap.size, 0, none⟩ (.int .i64 qk)).setCell ⟨W2.heap.size, 1, none⟩ (.int .u64 (qs : Int))).setCell ⟨W2.heap.size, 2, none⟩ (.int .u32 (qx : Int))).setCell ⟨W2.heap.size, 3, none⟩ (.slice (some ⟨gr, 0, none⟩) k qc)) = G := ⟨_, rfl⟩
                    rw [hG] at hst
                    obtain ⟨⟨g0, g1, g2, g3⟩, _⟩ := blk4 hst.1
                    have HFG := Lib.hid hst.2
                    obtain ⟨⟨r0, r1, r2, r3⟩, rf0, rf1, rf2, rf3⟩ := blk4 HBRT.out
                    clear hst
                    go_wp2_with fail
                    refine bodyPost_ret (v := .tuple #[.agg #[.int .i64 qk, .int .u64 (qs : Int), .int .u32 (qx : Int), .slice (some ⟨gr, 0, none⟩) k qc], .int .i64 0]) (by simp [results, Try.results31, go_sem, g0, g1, g2, g3]) rfl ?_
                    rw [HEQF.out]
                    refine ⟨⟨qk, qs, qx, (some ⟨gr, 0, none⟩), k, qc, (ql.take i ++ ql.drop j)⟩, S, T, rfl, ⟨HOT.out.keep HFG.out (fun b hb e => by have := HSTN.out.1 b hb; have := HZ.out; omega) (fun b hb e => by have := HSTN.out.2 b hb; have := HZ.out; omega), by show k ≤ _; omega, HPD.out.k1, HPD.out.k2, HPD.out.s, HPD.out.x⟩, fun b hb => by have := HSTN.out.1 b hb; have := HZ.out; omega, fun b hb => by have := HSTN.out.2 b hb; have := HZ.out; omega, HFT.out.trans (HFG.out.below (fun b hb => by have := HZ.out; omega) HFT.out.size), fun _ => ⟨rfl, rfl, rfl, rfl⟩, fun h => absurd rfl h⟩
end Go.Proofs.Ytajmpoanmdgmpaa
/-
  THE WALK OF Do, WITH WHAT MAY BE WRITTEN OVER.
-/
namespace Go.Proofs.Ytajmpoanmdgmpaa
open Go.RowKit

set_option maxHeartbeats 4000000 in
set_option maxRecDepth 100000 in
theorem copied_soft (p : PV) (w : World) (h : p.In w All All) (hf : Few p) : Calls Try.prog 60 #[p.agg] w fun e w' => ∃ p' S T, e = .returned p'.agg ∧ PO w' S T p' ∧ (∀ b, S b → w.heap.size ≤ b) ∧ (∀ b, T b → w.heap.size ≤ b) ∧ p'.es = p.es ∧ p'.k = p.k ∧ p'.s = p.s ∧ p'.x = p.x ∧ p'.n = p.n ∧ Below w.heap.size w w' ∧ ∀ x ∈ p'.l, WB w' T x.A x.m := by
  obtain ⟨W1, hW1, hBW1, hbx1, hsz1⟩ := box_page w p
  obtain ⟨W, hW⟩ : ∃ W, W1.alloc (.cells #[.int .i64 0, .int .u64 0, .int .u32 0, .slice none 0 0] 26) = W := ⟨_, rfl⟩
  have hBW : Below w.heap.size w W := by rw [← hW]; exact hBW1.alloc hBW1.size _
  have hbx : Blk W w.heap.size 26 (pcs p) := by rw [← hW]; exact hbx1.alloc _
  have hbr : Blk W W1.heap.size 26 #[.int .i64 0, .int .u64 0, .int .u32 0, .slice none 0 0] := by rw [← hW]; exact Blk.new W1 26 _
  have hsz : W.heap.size = w.heap.size + 2 := by rw [← hW]; simp [hsz1]
  obtain ⟨y0, y1, y2, y3⟩ := pcs_cells hbx
  have HP := Lib.hid (h.below hBW)
  have HBW := Lib.hid hBW
  have HBX := Lib.hid hbx
  have HBR := Lib.hid hbr
  have HSZ := Lib.hid hsz
  have HSZ1 := Lib.hid hsz1
  have HK := Lib.hid (show (-9223372036854775808 ≤ p.k ∧ p.k ≤ 9223372036854775807) ∧ p.s < 18446744073709551616 ∧ p.x < 4294967296 from ⟨⟨h.k1, h.k2⟩, h.s, h.x⟩)
  obtain ⟨pk, ps, px, A, n, c, l⟩ := p
  have hn3 : n ≤ 300 := hf.n
  have HL : Hid (l.length = n) := h.r.1
  have HFL : Hid (∀ c ∈ l.map CV.e, c.d.length ≤ 2000) := fun c hc => by
    obtain ⟨x, hx, rfl⟩ := List.mem_map.1 hc
    have h1 := hf.m x hx
    have h2 := (h.r.2.1 x hx).len
    show x.d.length ≤ 2000
    omega
  simp only at hW1 y0 y1 y2 y3
  have HCL := Lib.hid (cloneC_any (fun b => b < w.heap.size) A n c l W ((h.mono (S' := All) (T' := fun b => b < w.heap.size) (fun _ _ _ => trivial) fun b hb _ => hb).below hBW).r (by omega))
  clear h hf hBW hbx hsz hBW1 hbx1 hsz1 hbr
  simp only [PV.agg]
  go_enter Try.func60, Try.ntmps60
  go_wp2_with fail
  with_reducible refine HCL.out.mono ?_
  rintro e w2 ⟨v, rfl, hown, hb2⟩
  obtain ⟨vA, vc, rfl, hvc, _, hnz, hcr⟩ := hown.reads (by omega)
  have hbx2 := HBX.out.below hb2 (by have := HSZ.out; omega)
  have hbr2 := HBR.out.below hb2 (by have := HSZ.out; have := HSZ1.out; omega)
  have hfz := hbx2.frozen 3
  have n3 := hbx2.cell 3
  simp only [pcs, List.getElem?_toArray, List.getElem?_cons_zero, List.getElem?_cons_succ] at n3
  obtain ⟨E, hE⟩ : ∃ E, w2.setCell ⟨w.heap.size, 3, none⟩ (.slice vA n vc) = E := ⟨_, rfl⟩
  have hbx3 : Blk E w.heap.size 26 #[.int .i64 pk, .int .u64 (ps : Int), .int .u32 (px : Int), .slice vA n vc] := by rw [← hE]; exact hbx2.set_ 3 _
  have hbr3 : Blk E W1.heap.size 26 #[.int .i64 0, .int .u64 0, .int .u32 0, .slice none 0 0] := by rw [← hE]; exact hbr2.far (by have := HSZ1.out; simp only; omega) _
  have hfE : Fr w2 E (fun b => b = w.heap.size) := by rw [← hE]; exact (Fr.refl w2 (fun b => b = w.heap.size)).setCell (p := ⟨w.heap.size, 3, none⟩) (Or.inl rfl) _
  have hsE : W.heap.size ≤ E.heap.size := Nat.le_trans hb2.size hfE.size
  have hoE : OwC E (fun b => W.heap.size ≤ b) (fun b => b < w.heap.size) (.slice vA n vc) n l :=
    (hown.mono (S' := fun b => W.heap.size ≤ b) (T' := fun b => b < w.heap.size) (fun b _ hb => hb) (fun b _ hb => hb.1) fun k hk hb => by
      have := hown.2.2.1 k hk
      have := HSZ.out
      omega).keep hfE (fun b hb e => by have := HSZ.out; omega) fun b hb e => by omega
  have HOE := Lib.hid hoE
  have HBXE := Lib.hid hbx3
  have HBRE := Lib.hid hbr3
  have HWE := Lib.hid (show Fr W E (fun b => b = w.heap.size) from (Fr.of_below hb2 _).same hfE)
  obtain ⟨e0, e1, e2, e3⟩ := pcs_cells (p := ⟨pk, ps, px, vA, n, vc, l⟩) hbx3
  simp only at e0 e1 e2 e3
  clear hown hb2 hbx2 hbr2 hbx3 hbr3 hfE hsE hoE hcr hnz hvc
  go_wp2_with fail
  go_loopw [11] (fun i wr => ∃ (k : Nat) (T Tf : Nat → Prop) (lk : List CV), k ≤ n ∧ i = .int .i64 (k : Int) ∧ CO W wr l n k (.slice vA n vc) (fun b => W.heap.size ≤ b) T Tf lk ∧ Blk wr w.heap.size 26 #[.int .i64 pk, .int .u64 (ps : Int), .int .u32 (px : Int), .slice vA n vc] ∧ Blk wr W1.heap.size 26 #[.int .i64 0, .int .u64 0, .int .u32 0, .slice none 0 0] ∧ Fr W wr (fun b => b = w.heap.size) ∧ ∀ i x, i < k → lk[i]? = some x → WB wr Tf x.A x.m) (fun i _ => n - (intOf i).toNat)
  case atStart => exact ⟨0, _, No, l, by omega, rfl, ⟨HOE.out, rfl, fun i x hi => by omega, fun b hb => hb, fun b hb => hb.elim, fun b hb => hb.elim⟩, HBXE.out, HBRE.out, HWE.out, fun i x hi => by omega⟩
  case round =>
    obtain ⟨k, T, Tf, lk, hk, rfl, hco, hbx, hbr, hfr, hwb⟩ := hrel
    have HWBK := Lib.hid hwb
    have HC := Lib.hid hco
    have HBXr := Lib.hid hbx
    have HBRr := Lib.hid hbr
    have HFR := Lib.hid hfr
    have hszr := hfr.size
    obtain ⟨y0, y1, y2, y3⟩ := pcs_cells (p := ⟨pk, ps, px, vA, n, vc, l⟩) hbx
    simp only at y0 y1 y2 y3
    have hlk : lk.length = n := hco.o.len
    clear hco hbx hbr hfr hwb
    by_cases hlt : k < n
    · have hx : lk[k]? = some lk[k] := List.getElem?_eq_getElem (by omega)
      obtain ⟨x, hxe⟩ : ∃ x, x = lk[k] := ⟨_, rfl⟩
      rw [← hxe] at hx
      obtain ⟨g, cap, ev, hSg, hgl, b0, b1, b2, bf, hxi, hng, _⟩ := HC.out.o.set2 (T' := T) hx
      injection ev with ev1 ev2 ev3
      subst ev1 ev3
      have HX := Lib.hid hx
      have HXI := Lib.hid hxi
      obtain ⟨u, kk, xA, m, xc, d⟩ := x
      simp only at b0 b1 b2
      have hin : ((k : Int) < (n : Int)) := by omega
      have hkc : IntKind.i64.wrap (k : Int) = (k : Int) := IntWalk.i64_in _ (by omega)
      have hWi : IntKind.i64.wrap ((k : Int) + 1) = ((k + 1 : Nat) : Int) := by rw [IntWalk.i64_in _ (by omega)]; omega
      have hgz : g ≠ w.heap.size ∧ g ≠ W1.heap.size := ⟨by have := HSZ.out; omega, by have := HSZ.out; have := HSZ1.out; omega⟩
      have hgz1 : w.heap.size ≠ g := fun e => hgz.1 e.symm
      have hgz2 : W1.heap.size ≠ g := fun e => hgz.2 e.symm
      clear hx hxe hxi b0 b1
      go_upto_region 5 with fail
      refine wp_region_held_drew (S := fun wx => Fr wr wx (fun b => b = g)) (by kernel_rfl) ((Fr.refl wr _).drew) (fun hS => ?_)
      refine wpAnyH_take (i := 0) (v := ?_) rfl (by kernel_rfl) (by kernel_rfl) (by kernel_rfl) (fun _ _ _ h => h) (Or.inl ⟨by rfl, ?_⟩) hS ?_
      rotate_left
      · (intro wq hSw; go_simp; try with_reducible rfl)
      refine wpAnyH_take (i := 1) (v := ?_) rfl (by kernel_rfl) (by kernel_rfl) (by kernel_rfl) (fun _ _ _ h => h) (Or.inl ⟨by rfl, ?_⟩) hS ?_
      rotate_left
      · (intro wq hSw; have hc := ((HBXr.out.keep hSw (by omega)).cell 3); simp only [List.getElem?_toArray, List.getElem?_cons_zero, List.getElem?_cons_succ] at hc; go_simp; try with_reducible rfl)
      simp only [List.getElem_toArray, List.getElem_cons_succ, List.getElem_cons_zero, Act.put, List.setIfInBounds_toArray, List.set_cons_succ, List.set_cons_zero]
      refine wpAnyH_take (i := 2) (v := ?_) rfl (by kernel_rfl) (by kernel_rfl) (by kernel_rfl) (fun _ _ _ h => h) (Or.inl ⟨by rfl, ?_⟩) hS ?_
      rotate_left
      · (intro wq hSw; go_simp; try with_reducible rfl)
      simp only [List.getElem_toArray, List.getElem_cons_succ, List.getElem_cons_zero, Act.put, List.setIfInBounds_toArray, List.set_cons_succ, List.set_cons_zero]
      refine wpAnyH_take (i := 3) (v := ?_) rfl (by kernel_rfl) (by kernel_rfl) (by kernel_rfl) (fun _ _ _ h => h) (Or.inl ⟨by rfl, ?_⟩) hS ?_
      rotate_left
      · (intro wq hSw; go_simp; try with_reducible rfl)
      simp only [List.getElem_toArray, List.getElem_cons_succ, List.getElem_cons_zero, Act.put, List.setIfInBounds_toArray, List.set_cons_succ, List.set_cons_zero]
      refine wpAnyH_take (i := 4) (v := ?_) rfl (by kernel_rfl) (by kernel_rfl) (by kernel_rfl) (fun _ _ _ h => h) (Or.inl ⟨by rfl, ?_⟩) hS ?_
      rotate_left
      · (intro wq hSw; have hc := ((HBXr.out.keep hSw (by omega)).cell 3); simp only [List.getElem?_toArray, List.getElem?_cons_zero, List.getElem?_cons_succ] at hc; go_simp; try with_reducible rfl)
      simp only [List.getElem_toArray, List.getElem_cons_succ, List.getElem_cons_zero, Act.put, List.setIfInBounds_toArray, List.set_cons_succ, List.set_cons_zero]
      refine wpAnyH_take (i := 5) (v := ?_) rfl (by kernel_rfl) (by kernel_rfl) (by kernel_rfl) (fun _ _ _ h => h) (Or.inl ⟨by rfl, ?_⟩) hS ?_
      rotate_left
      · (intro wq hSw; go_simp; try with_reducible rfl)
      simp only [List.getElem_toArray, List.getElem_cons_succ, List.getElem_cons_zero, Act.put, List.setIfInBounds_toArray, List.set_cons_succ, List.set_cons_zero]
      refine wpAnyH_take (i := 6) (v := ?_) rfl (by kernel_rfl) (by kernel_rfl) (by kernel_rfl) (fun _ _ _ h => h) (Or.inl ⟨by rfl, ?_⟩) hS ?_
      rotate_left
      · (intro wq hSw; go_simp; try with_reducible rfl)
      simp only [List.getElem_toArray, List.getElem_cons_succ, List.getElem_cons_zero, Act.put, List.setIfInBounds_toArray, List.set_cons_succ, List.set_cons_zero]
      refine wpAnyH_take (i := 7) (v := ?_) rfl (by kernel_rfl) (by kernel_rfl) (by kernel_rfl) (fun _ _ _ h => h) (Or.inl ⟨by rfl, ?_⟩) hS ?_
      rotate_left
      · (intro wq hSw; go_simp; try with_reducible rfl)
      simp only [List.getElem_toArray, List.getElem_cons_succ, List.getElem_cons_zero, Act.put, List.setIfInBounds_toArray, List.set_cons_succ, List.set_cons_zero]
      have c2 : wr.drew.cell? ⟨g, k * 3 + 2, none⟩ = some (.slice xA m xc) := b2
      refine wpAnyH_ready (rs := [8]) (by kernel_rfl) (by simp) ?_
      refine AllReadyH.cons rfl (fun K hK => ?_) AllReadyH.nil
      go_simp
      refine hK.out _ _ hS (fun hS => ?_)
      clear hK K
      refine wpAnyH_ready (rs := [9]) (by kernel_rfl) (by simp) ?_
      refine AllReadyH.cons rfl (fun K hK => ?_) AllReadyH.nil
      go_simp
      refine (clone_any wr.drew _ xA m xc d HXI.out.b (by have h8 := HFL.out _ (HC.out.e ▸ List.mem_map_of_mem (List.mem_of_getElem? HX.out)); have h9 := HXI.out.len; simp only [CV.e] at h8 h9; omega)).mono ?_
      rintro e x2 ⟨v2, rfl, hnew, hb⟩
      have hf2 : Fr wr x2 No := ((Fr.refl wr No).drew).trans (Fr.of_below hb No) fun _ hn => hn.elim
      refine hK.out _ _ ?_ (fun hS => ?_)
      · exact hS.trans (Fr.of_below hb No) fun _ hn => hn.elim
      clear hK K
      obtain ⟨A2, c2', rfl, hmc2, hnz2, hrb2⟩ := Ow.reads hnew
      have hdl : d.length = m := HXI.out.len
      rw [hdl] at hrb2 hmc2
      obtain ⟨g', cap', e', hSg', hgl', k0, k1, k2, kf, kin, kn, kset⟩ := (HC.out.o.fr hf2).set2 (T' := fun b => (T b ∧ b < wr.heap.size) ∨ (wr.heap.size ≤ b ∧ b < x2.heap.size)) HX.out
      injection e' with e1 e2 e3
      injection e1 with e1
      injection e1 with e1
      subst e1
      clear e2 e3
      have hins : ∀ (U : Nat → Prop), (∀ b, wr.heap.size ≤ b ∧ b < x2.heap.size → U b) → CV.In x2 U ⟨u, kk, A2, m, c2', d⟩ := fun U hU => ⟨hrb2.mono fun b hlt hb => hU b ⟨hb, hlt⟩, HXI.out.k, hmc2, HXI.out.ml, hnz2⟩
      have ho2 := kset A2 m c2' d (hins _ fun b hb => Or.inr hb) (fun b hlt hb => by
        by_cases hh : b < wr.heap.size
        · exact Or.inl ⟨hb, hh⟩
        · exact Or.inr ⟨by omega, hlt⟩) (fun hb => by
        rcases hb with hb | hb
        · exact kn hb.1
        · omega)
      have HWN : Hid (WB x2 (fun b => wr.heap.size ≤ b ∧ b < x2.heap.size) A2 m) := Lib.hid (by
        obtain ⟨Aw, cw, ew, hwb⟩ := WB.of_ow (hnew.mono (T := fun b => wr.heap.size ≤ b ∧ b < x2.heap.size) fun b hlt hb => ⟨hb, hlt⟩)
        injection ew with ew _ ew3
        subst ew ew3
        rw [← hdl]
        exact hwb)
      have HO2 := Lib.hid ho2
      have HIN := Lib.hid (hins (fun b => wr.heap.size ≤ b ∧ b < x2.heap.size) fun b hb => hb)
      have HF2 := Lib.hid hf2
      have HKN := Lib.hid kn
      clear hnew hb hrb2 ho2 hins kset kin k0 k1 hf2
      refine wpAnyH_take (i := 10) (v := ?_) rfl (by kernel_rfl) (by kernel_rfl) (by kernel_rfl) (fun _ _ _ h => h) (Or.inl ⟨by rfl, ?_⟩) hS ?_
      rotate_left
      · (intro wq hSw; go_simp; try with_reducible rfl)
      simp only [List.getElem_toArray, List.getElem_cons_succ, List.getElem_cons_zero, Act.put, List.setIfInBounds_toArray, List.set_cons_succ, List.set_cons_zero]
      refine wpAnyH_take (i := 11) (v := ?_) rfl (by kernel_rfl) (by kernel_rfl) (by kernel_rfl) (fun _ _ _ h => h) (Or.inl ⟨by rfl, ?_⟩) hS ?_
      rotate_left
      · (intro wq hSw; go_simp; try with_reducible rfl)
      simp only [List.getElem_toArray, List.getElem_cons_succ, List.getElem_cons_zero, Act.put, List.setIfInBounds_toArray, List.set_cons_succ, List.set_cons_zero]
      refine wpAnyH_ready (rs := [12]) (by kernel_rfl) (by simp) ?_
      refine AllReadyH.cons rfl (fun K hK => ?_) AllReadyH.nil
      go_simp
      refine hK.out _ _ ?_ (fun hS => ?_)
      · exact hS.setCell (Or.inl rfl) _
      clear hK K
      refine wpAnyH_done (by kernel_rfl) ?_ _
      obtain ⟨F, hF⟩ : ∃ F, x2.setCell ⟨g, k * 3 + 2, none⟩ (.slice A2 m c2') = F := ⟨_, rfl⟩
      have HO3 := Lib.hid (show OwC F (fun b => W.heap.size ≤ b) (fun b => (T b ∧ b < wr.heap.size) ∨ (wr.heap.size ≤ b ∧ b < x2.heap.size)) (.slice (some ⟨g, 0, none⟩) n vc) n (lk.set k ⟨u, kk, A2, m, c2', d⟩) from hF ▸ HO2.out)
      have HFF := Lib.hid (show Fr x2 F (fun b => b = g) by rw [← hF]; exact (Fr.refl x2 (fun b => b = g)).setCell (p := ⟨g, k * 3 + 2, none⟩) (Or.inl rfl) _)
      rw [hF] at hS
      have HSS := Lib.hid hS
      clear hS
      go_wp2_with fail
      go_roundw
      case rel =>
        refine ⟨k + 1, _, fun b => (Tf b ∧ b < wr.heap.size) ∨ (wr.heap.size ≤ b ∧ b < x2.heap.size), _, by omega, by go_num, ⟨HO3.out, ?_, ?_, fun b hb => hb, ?_, ?_⟩, ?_, ?_, ?_, ?_⟩
        · rw [List.map_set, HC.out.e]
          have h9 := es_at HX.out
          rw [HC.out.e] at h9
          exact set_self h9
        · intro i x hi hx
          rcases Nat.lt_or_ge i k with hik | hik
          · rw [List.getElem?_set_ne (by omega)] at hx
            exact (((HC.out.own i x hik hx).mono (T' := fun b => Tf b ∧ b < wr.heap.size) fun b hlt hb => ⟨hb, hlt⟩).keep HF2.out fun _ _ hn => hn).keep HFF.out (fun b hb e => HKN.out (e ▸ HC.out.tt b hb.1)) |>.mono fun b _ hb => Or.inl hb
          · obtain rfl : i = k := by omega
            rw [List.getElem?_set_self (by omega)] at hx
            injection hx with hx
            subst hx
            exact (HIN.out.keep HFF.out fun b hb e => by omega).mono fun b _ hb => Or.inr hb
        · intro b hb
          rcases hb with hb | hb
          · exact HC.out.t0 b hb.1
          · omega
        · intro b hb
          rcases hb with hb | hb
          · exact Or.inl ⟨HC.out.tt b hb.1, hb.2⟩
          · exact Or.inr hb
        · exact HBXr.out.keep HSS.out (by omega)
        · exact HBRr.out.keep HSS.out (by omega)
        · exact HFR.out.trans HSS.out fun b hb => Or.inr (by omega)
        · intro i x hi hx
          rcases Nat.lt_or_ge i k with hik | hik
          · rw [List.getElem?_set_ne (by omega)] at hx
            exact (((HWBK.out i x hik hx).mono (T := fun b => Tf b ∧ b < wr.heap.size) fun b hlt hb => ⟨hb, hlt⟩).keep HF2.out fun _ _ hn => hn).keep HFF.out (fun b hb e => HKN.out (e ▸ HC.out.tt b hb.1)) |>.mono fun b _ hb => Or.inl hb
          · obtain rfl : i = k := by omega
            rw [List.getElem?_set_self (by omega)] at hx
            injection hx with hx
            subst hx
            exact (HWN.out.keep HFF.out fun b hb e => by omega).mono fun b _ hb => Or.inr hb
      case measure => simp [intOf]; omega
    · have h1d : decide ((k : Int) < (n : Int)) = false := decide_eq_false (by omega)
      have h1d2 : decide (k < n) = false := decide_eq_false hlt
      have HKN := Lib.hid (show k = n by omega)
      have hbr3 := HBRr.out
      have r0 := hbr3.cell 0
      have r1 := hbr3.cell 1
      have r2 := hbr3.cell 2
      have r3 := hbr3.cell 3
      have q0 := hbr3.frozen 0
      have q1 := hbr3.frozen 1
      have q2 := hbr3.frozen 2
      have q3 := hbr3.frozen 3
      simp only [List.getElem?_toArray, List.getElem?_cons_zero, List.getElem?_cons_succ] at r0 r1 r2 r3
      obtain ⟨G, hG⟩ : ∃ G, (((wr.setCell ⟨W1.heap.size, 0, none⟩ (.int .i64 pk)).setCell ⟨W1.heap.size, 1, none⟩ (.int .u64 (ps : Int))).setCell ⟨W1.heap.size, 2, none⟩ (.int .u32 (px : Int))).setCell ⟨W1.heap.size, 3, none⟩ (.slice vA n vc) = G := ⟨_, rfl⟩
      have hbg : Blk G W1.heap.size 26 #[.int .i64 pk, .int .u64 (ps : Int), .int .u32 (px : Int), .slice vA n vc] := by rw [← hG]; exact (((hbr3.set_ 0 _).set_ 1 _).set_ 2 _).set_ 3 _
      have hfG : Fr wr G (fun b => b = W1.heap.size) := by
        rw [← hG]
        exact (((((Fr.refl wr (fun b => b = W1.heap.size)).setCell (p := ⟨W1.heap.size, 0, none⟩) (Or.inl rfl) _).setCell (p := ⟨W1.heap.size, 1, none⟩) (Or.inl rfl) _).setCell (p := ⟨W1.heap.size, 2, none⟩) (Or.inl rfl) _).setCell (p := ⟨W1.heap.size, 3, none⟩) (Or.inl rfl) _)
      have g0 := hbg.cell 0
      have g1 := hbg.cell 1
      have g2 := hbg.cell 2
      have g3 := hbg.cell 3
      simp only [List.getElem?_toArray, List.getElem?_cons_zero, List.getElem?_cons_succ] at g0 g1 g2 g3
      have HFG := Lib.hid hfG
      clear hbr3 hfG hbg
      go_wp2_with fail
      refine bodyPost_ret (v := .agg #[.int .i64 pk, .int .u64 (ps : Int), .int .u32 (px : Int), .slice vA n vc]) (by simp [results, Try.results60, go_sem, g0, g1, g2, g3]) rfl ?_
      have hoT : OwC wr (fun b => W.heap.size ≤ b) Tf (.slice vA n vc) n lk := ⟨HC.out.o.1, fun x hx => by
        obtain ⟨i, hi, rfl⟩ := List.getElem_of_mem hx
        exact HC.out.own i _ (by have := HKN.out; omega) (List.getElem?_eq_getElem hi), HC.out.o.2.2.1, fun q hq hT => HC.out.o.2.2.2 q hq (HC.out.tt q hT)⟩
      refine ⟨⟨pk, ps, px, vA, n, vc, lk⟩, fun b => W.heap.size ≤ b, Tf, rfl, ⟨?_, by show n ≤ _; omega, HK.out.1.1, HK.out.1.2, HK.out.2.1, HK.out.2.2⟩, fun b hb => by have := HSZ.out; omega, fun b hb => by have := HC.out.t0 b hb; have := HSZ.out; omega, HC.out.e, rfl, rfl, rfl, rfl, ?_, fun x hx => ?_⟩
      · exact hoT.keep HFG.out (fun b hb e => by have := HSZ.out; have := HSZ1.out; omega) fun b hb e => by have := HC.out.t0 b hb; have := HSZ.out; have := HSZ1.out; omega
      · exact HBW.out.trans ((HFR.out.below (fun b hb => by omega) HBW.out.size).trans (HFG.out.below (fun b hb => by have := HSZ1.out; omega) (by have := HBW.out.size; omega)))
      · obtain ⟨i, hi, rfl⟩ := List.getElem_of_mem hx
        exact (HWBK.out i _ (by simp only at hi; have := HKN.out; omega) (List.getElem?_eq_getElem hi)).keep HFG.out fun b hb e => by have := HC.out.t0 b hb; have := HSZ.out; have := HSZ1.out; omega
/-- what Do comes to: a page whose bytes may be written over -/
def DoB (w : World) (p : PV) (r : Int × List CE) (e : Ending) (w' : World) : Prop :=
  ∃ q S T, e = .returned (.tuple #[q.agg, .int .i64 r.1]) ∧ PO w' S T q ∧ (∀ b, S b → w.heap.size ≤ b) ∧ (∀ b, T b → w.heap.size ≤ b) ∧ Below w.heap.size w w' ∧ (r.1 = 0 → q.es = r.2 ∧ q.k = p.k ∧ q.s = p.s ∧ q.x = p.x) ∧ (r.1 ≠ 0 → q = PV.zero) ∧ ∀ x ∈ q.l, WB w' T x.A x.m
theorem DoB.no {w w' : World} {p : PV} {c : Int} (hc : c ≠ 0) (h : Below w.heap.size w w') : DoB w p (c, []) (.returned (.tuple #[PV.zero.agg, .int .i64 c])) w' :=
  ⟨PV.zero, fun b => w.heap.size ≤ b, fun b => w.heap.size ≤ b, rfl, PO.zero _ _ _, fun _ h => h, fun _ h => h, h, fun h => absurd h hc, fun _ => rfl, fun x hx => by simp [PV.zero] at hx⟩
set_option maxHeartbeats 4000000 in
set_option maxRecDepth 100000 in
theorem Do_soft (w : World) (p : PV) (h : p.In w All All) (hf : Few p) (op : OV) (hop : op.In w All) : Calls Try.prog 30 #[p.agg, op.agg] w (DoB w p (DoM p.k p.es op.k op.s op.t op.m op.d)) := by
  obtain ⟨W1, hW1, hBW1, hbx1, hsz1⟩ := box_page w p
  obtain ⟨W2, hW2, hBW2, hbx2, hsz2⟩ := box_op W1 op
  obtain ⟨W, hW⟩ : ∃ W, W2.alloc (.cells #[.int .i64 0, .int .u64 0, .int .u32 0, .slice none 0 0] 26) = W := ⟨_, rfl⟩
  have hB3 : Below W2.heap.size W2 W := by rw [← hW]; exact (Below.refl _ _).alloc (Nat.le_refl _) _
  have hBW : Below w.heap.size w W := (hBW1.trans (hBW2.mono hBW1.size)).trans (hB3.mono (by omega))
  have hbx : Blk W w.heap.size 26 (pcs p) := (hbx1.below hBW2 (by omega)).below hB3 (by omega)
  have hbo : Blk W W1.heap.size 46 (ocs op) := hbx2.below hB3 (by omega)
  have hbr : Blk W W2.heap.size 26 #[.int .i64 0, .int .u64 0, .int .u32 0, .slice none 0 0] := by rw [← hW]; exact Blk.new W2 26 _
  have hsz : W.heap.size = w.heap.size + 3 := by rw [← hW]; simp; omega
  obtain ⟨y0, y1, y2, y3⟩ := pcs_cells hbx
  have hmy := may_any p W (h.below hBW) hf
  obtain ⟨mb, hmb⟩ : ∃ mb, mb = may p.k p.es := ⟨_, rfl⟩
  rw [← hmb] at hmy
  have HM := Lib.hid hmy
  have HMB := Lib.hid hmb
  have HR := Lib.hid (fun W' => right_any p.k op W')
  obtain ⟨rb, hrb⟩ : ∃ rb, rb = rightP p.k op.k op.s op.t op.m := ⟨_, rfl⟩
  rw [← hrb] at HR
  have HRB := Lib.hid hrb
  have HC := Lib.hid (fun W' (hW' : Below W.heap.size W W') => copied_soft p W' ((h.below hBW).below hW') hf)
  have HBW := Lib.hid hBW
  have HBX := Lib.hid hbx
  have HBO := Lib.hid hbo
  have HBR := Lib.hid hbr
  have HSZ := Lib.hid hsz
  have HS1 := Lib.hid hsz1
  have HS2 := Lib.hid hsz2
  have HF := Lib.hid hf
  have HOP := Lib.hid (hop.below hBW)
  have HLZ := Lib.hid (fun z hz => (h.r.2.1 z hz).len)
  have HLEN := Lib.hid h.len
  obtain ⟨pk, ps, px, pA, n, pc, l⟩ := p
  obtain ⟨ok, os, ot, oA, om, oc, od⟩ := op
  simp only at hW1 hW2 y0 y1 y2 y3
  simp only [PV.agg, OV.agg] at HM HR HC ⊢
  clear h hf hop hbx hbo hbr hBW hBW1 hBW2 hB3 hsz hsz1 hsz2 hbx1 hbx2 hmy hmb hrb
  have HEND : Hid (∀ X G, Below W.heap.size W X → Fr X G (fun b => b = W2.heap.size) → Below w.heap.size w G) := fun X G h1 h2 => by
    have h3 : Below w.heap.size w X := HBW.out.trans (h1.mono HBW.out.size)
    exact h3.trans (h2.below (fun b hb => by have := HS1.out; have := HS2.out; omega) h3.size)
  go_enter Try.func30, Try.ntmps30
  go_wp2_with fail
  refine HM.out.mono ?_
  rintro e w1 ⟨rfl, hb1⟩
  have HB1 := Lib.hid hb1
  obtain ⟨y0, y1, y2, y3⟩ := pcs_cells (HBX.out.below hb1 (by have := HSZ.out; omega))
  obtain ⟨t0, t1, t2, t3⟩ := ocs_cells (HBO.out.below hb1 (by have := HSZ.out; have := HS1.out; omega))
  simp only at y0 y1 y2 y3 t0 t1 t2 t3
  clear hb1
  cases mb with
  | false =>
    have hbz := HBR.out.below HB1.out (by have := HSZ.out; have := HS1.out; have := HS2.out; omega)
    have r0 := hbz.cell 0
    have r1 := hbz.cell 1
    have r2 := hbz.cell 2
    have r3 := hbz.cell 3
    have q0 := hbz.frozen 0
    have q1 := hbz.frozen 1
    have q2 := hbz.frozen 2
    have q3 := hbz.frozen 3
    simp only [List.getElem?_toArray, List.getElem?_cons_zero, List.getElem?_cons_succ] at r0 r1 r2 r3
    obtain ⟨G, hG⟩ : ∃ G, (((w1.setCell ⟨W2.heap.size, 0, none⟩ (.int .i64 0)).setCell ⟨W2.heap.size, 1, none⟩ (.int .u64 0)).setCell ⟨W2.heap.size, 2, none⟩ (.int .u32 0)).setCell ⟨W2.heap.size, 3, none⟩ (.slice none 0 0) = G := ⟨_, rfl⟩
    have hbg : Blk G W2.heap.size 26 #[.int .i64 0, .int .u64 0, .int .u32 0, (.slice none 0 0)] := by rw [← hG]; exact (((hbz.set_ 0 _).set_ 1 _).set_ 2 _).set_ 3 _
    have hfG : Fr w1 G (fun b => b = W2.heap.size) := by
      rw [← hG]
      exact fr_set (fr_set (fr_set (fr_set (Fr.refl _ _) _ _) _ _) _ _) _ _
    have g0 := hbg.cell 0
    have g1 := hbg.cell 1
    have g2 := hbg.cell 2
    have g3 := hbg.cell 3
    simp only [List.getElem?_toArray, List.getElem?_cons_zero, List.getElem?_cons_succ] at g0 g1 g2 g3
    have HFG := Lib.hid hfG
    clear hbg hfG
    clear hbz
    go_wp2_with fail
    refine bodyPost_ret (v := .tuple #[PV.zero.agg, .int .i64 5]) (by simp [results, Try.results30, go_sem, g0, g1, g2, g3, PV.agg, PV.zero]) rfl ?_
    have hgoal : DoM pk (⟨pk, ps, px, pA, n, pc, l⟩ : PV).es ok os ot om od = (5, []) := by
      unfold DoM
      have h1 := HMB.out
      rw [← h1, if_neg (by simp)]
    rw [hgoal]
    exact DoB.no (by decide) (HEND.out _ _ HB1.out HFG.out)
  | true =>
    go_wp2_with fail
    refine (HR.out _).mono ?_
    rintro e w2 ⟨rfl, hb2⟩
    have HB2 := Lib.hid (HB1.out.trans (hb2.mono HB1.out.size))
    obtain ⟨y0, y1, y2, y3⟩ := pcs_cells (HBX.out.below HB2.out (by have := HSZ.out; omega))
    simp only at y0 y1 y2 y3
    clear hb2
    cases rb with
    | false =>
      have hbz := HBR.out.below HB2.out (by have := HSZ.out; have := HS1.out; have := HS2.out; omega)
      have r0 := hbz.cell 0
      have r1 := hbz.cell 1
      have r2 := hbz.cell 2
      have r3 := hbz.cell 3
      have q0 := hbz.frozen 0
      have q1 := hbz.frozen 1
      have q2 := hbz.frozen 2
      have q3 := hbz.frozen 3
      simp only [List.getElem?_toArray, List.getElem?_cons_zero, List.getElem?_cons_succ] at r0 r1 r2 r3
      obtain ⟨G, hG⟩ : ∃ G, (((w2.setCell ⟨W2.heap.size, 0, none⟩ (.int .i64 0)).setCell ⟨W2.heap.size, 1, none⟩ (.int .u64 0)).setCell ⟨W2.heap.size, 2, none⟩ (.int .u32 0)).setCell ⟨W2.heap.size, 3, none⟩ (.slice none 0 0) = G := ⟨_, rfl⟩
      have hbg : Blk G W2.heap.size 26 #[.int .i64 0, .int .u64 0, .int .u32 0, (.slice none 0 0)] := by rw [← hG]; exact (((hbz.set_ 0 _).set_ 1 _).set_ 2 _).set_ 3 _
      have hfG : Fr w2 G (fun b => b = W2.heap.size) := by
        rw [← hG]
        exact fr_set (fr_set (fr_set (fr_set (Fr.refl _ _) _ _) _ _) _ _) _ _
      have g0 := hbg.cell 0
      have g1 := hbg.cell 1
      have g2 := hbg.cell 2
      have g3 := hbg.cell 3
      simp only [List.getElem?_toArray, List.getElem?_cons_zero, List.getElem?_cons_succ] at g0 g1 g2 g3
      have HFG := Lib.hid hfG
      clear hbg hfG
      clear hbz
      go_wp2_with fail
      refine bodyPost_ret (v := .tuple #[PV.zero.agg, .int .i64 1]) (by simp [results, Try.results30, go_sem, g0, g1, g2, g3, PV.agg, PV.zero]) rfl ?_
      have hgoal : DoM pk (⟨pk, ps, px, pA, n, pc, l⟩ : PV).es ok os ot om od = (1, []) := by
        unfold DoM
        have h1 := HMB.out
        have h2 := HRB.out
        rw [← h1, ← h2, if_pos rfl, if_neg (by simp)]
      rw [hgoal]
      exact DoB.no (by decide) (HEND.out _ _ HB2.out HFG.out)
    | true =>
      go_wp2_with fail
      refine (HC.out _ HB2.out).mono ?_
      rintro e w3 ⟨p', S, T, rfl, hpo, hS, hT, hes, hpk, hps, hpx, hpn, hb3, hwb3⟩
      have HB3 := Lib.hid (HB2.out.trans (hb3.mono HB2.out.size))
      have hw2 : W.heap.size ≤ w2.heap.size := HB2.out.size
      have HSS := Lib.hid (show (∀ b, S b → W.heap.size ≤ b) ∧ ∀ b, T b → W.heap.size ≤ b from ⟨fun b hb => Nat.le_trans hw2 (hS b hb), fun b hb => Nat.le_trans hw2 (hT b hb)⟩)
      have HXS := Lib.hid (show p'.s = ps ∧ p'.x = px ∧ p'.k = pk from ⟨hps, hpx, hpk⟩)
      obtain ⟨s0, s1, s2, s3⟩ := ocs_cells ((HBO.out.below HB3.out (by have := HSZ.out; have := HS1.out; omega)).alloc (.cells #[.int .i64 p'.k, .int .u64 (p'.s : Int), .int .u32 (p'.x : Int), .slice p'.A p'.n p'.c] 26))
      obtain ⟨D, hD, hBD, hbd, hszd⟩ := box_page w3 p'
      rw [hD] at s0 s1 s2 s3
      simp only at s0 s1 s2 s3
      have hrt := right_parts HRB.out.symm
      have hml : ∀ x ∈ p'.l, x.m ≤ 2000 := fun y hy => by
        have h1 : y.e ∈ p'.es := List.mem_map_of_mem hy
        rw [hes] at h1
        obtain ⟨z, hz, hze⟩ := List.mem_map.1 h1
        have h2 := (hpo.o.2.1 y hy).len
        have h4 : z.d = y.d := congrArg CE.d hze
        have h5 := HF.out.m z hz
        have h6 := HLZ.out z hz
        rw [h4] at h6
        omega
      have hde := do_any D (fun b => S b ∧ b < w3.heap.size) (fun b => T b ∧ b < w3.heap.size) w3.heap.size p' hbd ⟨fun h => Nat.lt_irrefl _ h.2, fun h => Nat.lt_irrefl _ h.2⟩ (hpo.tight.keep (Fr.of_below hBD No) (fun _ _ hn => hn) fun _ _ hn => hn) (by rw [hpk]; exact hrt.1) (by rw [hpn]; exact HF.out.n) hml (fun b hb => by omega) (fun b hb => by omega) (fun h2 => by rw [hes]; exact may_rise HMB.out.symm (hpk.symm.trans h2)) ⟨ok, os, ot, oA, om, oc, od⟩ ((HOP.out.below HB3.out).below hBD) (by have h9 := hrt.2.2.2; simp only; omega) ⟨hrt.2.1, hrt.2.2.1⟩
      rw [hpk, hes] at hde
      simp only [OV.agg] at hde
      obtain ⟨R, hR⟩ : ∃ R, R = doM pk (⟨pk, ps, px, pA, n, pc, l⟩ : PV).es ok os ot od := ⟨_, rfl⟩
      rw [← hR] at hde
      have hgoal : DoM pk (⟨pk, ps, px, pA, n, pc, l⟩ : PV).es ok os ot om od = R := by
        unfold DoM
        have h1 := HMB.out
        have h2 := HRB.out
        rw [← h1, ← h2, if_pos rfl, if_pos rfl, hR]
      have HGOAL := Lib.hid hgoal
      have HDE := Lib.hid hde
      have HWB3 := Lib.hid (fun x hx => ((hwb3 x hx).mono (T := fun b => T b ∧ b < w3.heap.size) fun b hlt hb => ⟨hb, hlt⟩).keep (Fr.of_below hBD No) fun _ _ hn => hn)
      have HBD := Lib.hid hBD
      have HSD := Lib.hid hszd
      clear hpo hS hT hes hpk hps hpx hpn hb3 hwb3 hBD hbd hszd hml hrt hde hR hgoal
      go_wp2_with fail
      refine HDE.out.mono ?_
      intro e w4 hd
      have hfr : Fr D w4 (fun b => b = w3.heap.size ∨ (S b ∧ b < w3.heap.size)) := by
        by_cases h0 : R.1 = 0
        · obtain ⟨_, _, _, _, _, _, _, _, _, _, hf, _⟩ := hd.1 h0
          exact hf
        · exact (hd.2 h0).2
      have hnz : ∀ b, (b = w3.heap.size ∨ S b ∧ b < w3.heap.size) → W.heap.size ≤ b := fun b hb => hb.elim (fun e => by have := HB3.out.size; omega) fun h => HSS.out.1 b h.1
      have hBF : Below W.heap.size W w4 := HB3.out.trans ((HBD.out.mono HB3.out.size).trans (hfr.below hnz (by have := HB3.out.size; have := HSD.out; omega)))
      have HBF := Lib.hid hBF
      have hbr := HBR.out.below hBF (by have := HSZ.out; have := HS1.out; have := HS2.out; omega)
      have HBR4 := Lib.hid hbr
      by_cases h0 : R.1 = 0
      · obtain ⟨p2, S', T', rfl, hb', hpo', hes', hx', hS', hT', _, hsoft⟩ := hd.1 h0
        have HSOFT := Lib.hid (hsoft HWB3.out)
        obtain ⟨u0, u1, u2, u3⟩ := pcs_cells hb'
        have HPO2 := Lib.hid hpo'
        have HES2 := Lib.hid (show p2.es = R.2 ∧ p2.k = pk ∧ p2.s = ps ∧ p2.x = px from ⟨hes', hx'.1.trans HXS.out.2.2, hx'.2.1.trans HXS.out.1, hx'.2.2.trans HXS.out.2.1⟩)
        have HST := Lib.hid (show (∀ b, S' b → W.heap.size ≤ b) ∧ ∀ b, T' b → W.heap.size ≤ b by
          have := HB3.out.size
          have := HSD.out
          refine ⟨fun b hb => ?_, fun b hb => ?_⟩
          · rcases hS' b hb with h | h
            · exact HSS.out.1 b h.1
            · omega
          · rcases hT' b hb with h | h
            · exact HSS.out.2 b h.1
            · omega)
        have HR0 := Lib.hid h0
        clear hd hfr hnz hBF hb' hpo' hes' hx' hS' hT' h0 hsoft s0 s1 s2 s3
        have hbz := HBR4.out
        have r0 := hbz.cell 0
        have r1 := hbz.cell 1
        have r2 := hbz.cell 2
        have r3 := hbz.cell 3
        have q0 := hbz.frozen 0
        have q1 := hbz.frozen 1
        have q2 := hbz.frozen 2
        have q3 := hbz.frozen 3
        simp only [List.getElem?_toArray, List.getElem?_cons_zero, List.getElem?_cons_succ] at r0 r1 r2 r3
        obtain ⟨G, hG⟩ : ∃ G, (((w4.setCell ⟨W2.heap.size, 0, none⟩ (.int .i64 p2.k)).setCell ⟨W2.heap.size, 1, none⟩ (.int .u64 (p2.s : Int))).setCell ⟨W2.heap.size, 2, none⟩ (.int .u32 (p2.x : Int))).setCell ⟨W2.heap.size, 3, none⟩ (.slice p2.A p2.n p2.c) = G := ⟨_, rfl⟩
        have hbg : Blk G W2.heap.size 26 #[.int .i64 p2.k, .int .u64 (p2.s : Int), .int .u32 (p2.x : Int), (.slice p2.A p2.n p2.c)] := by rw [← hG]; exact (((hbz.set_ 0 _).set_ 1 _).set_ 2 _).set_ 3 _
        have hfG : Fr w4 G (fun b => b = W2.heap.size) := by
          rw [← hG]
          exact fr_set (fr_set (fr_set (fr_set (Fr.refl _ _) _ _) _ _) _ _) _ _
        have g0 := hbg.cell 0
        have g1 := hbg.cell 1
        have g2 := hbg.cell 2
        have g3 := hbg.cell 3
        simp only [List.getElem?_toArray, List.getElem?_cons_zero, List.getElem?_cons_succ] at g0 g1 g2 g3
        have HFG := Lib.hid hfG
        clear hbg hfG
        clear hbz
        go_wp2_with fail
        refine bodyPost_ret (v := .tuple #[p2.agg, .int .i64 0]) (by simp [results, Try.results30, go_sem, g0, g1, g2, g3, PV.agg]) rfl ?_
        rw [HGOAL.out]
        refine ⟨p2, S', T', by rw [HR0.out], HPO2.out.keep HFG.out (fun b hb e => by have := HST.out.1 b hb; have := HSZ.out; have := HS1.out; have := HS2.out; omega) (fun b hb e => by have := HST.out.2 b hb; have := HSZ.out; have := HS1.out; have := HS2.out; omega), fun b hb => Nat.le_trans HBW.out.size (HST.out.1 b hb), fun b hb => Nat.le_trans HBW.out.size (HST.out.2 b hb), HEND.out _ _ HBF.out HFG.out, fun _ => HES2.out, fun h => absurd HR0.out h, fun x hx => (HSOFT.out x hx).keep HFG.out fun b hb e => by have := HST.out.2 b hb; have := HSZ.out; have := HS1.out; have := HS2.out; omega⟩
      · obtain ⟨rfl, _⟩ := hd.2 h0
        have ne0 : (R.1 != 0) = true := bne_iff_ne.2 h0
        have HR0 := Lib.hid h0
        clear hd hfr hnz hBF h0 s0 s1 s2 s3
        have hbz := HBR4.out
        have r0 := hbz.cell 0
        have r1 := hbz.cell 1
        have r2 := hbz.cell 2
        have r3 := hbz.cell 3
        have q0 := hbz.frozen 0
        have q1 := hbz.frozen 1
        have q2 := hbz.frozen 2
        have q3 := hbz.frozen 3
        simp only [List.getElem?_toArray, List.getElem?_cons_zero, List.getElem?_cons_succ] at r0 r1 r2 r3
        obtain ⟨G, hG⟩ : ∃ G, (((w4.setCell ⟨W2.heap.size, 0, none⟩ (.int .i64 0)).setCell ⟨W2.heap.size, 1, none⟩ (.int .u64 0)).setCell ⟨W2.heap.size, 2, none⟩ (.int .u32 0)).setCell ⟨W2.heap.size, 3, none⟩ (.slice none 0 0) = G := ⟨_, rfl⟩
        have hbg : Blk G W2.heap.size 26 #[.int .i64 0, .int .u64 0, .int .u32 0, (.slice none 0 0)] := by rw [← hG]; exact (((hbz.set_ 0 _).set_ 1 _).set_ 2 _).set_ 3 _
        have hfG : Fr w4 G (fun b => b = W2.heap.size) := by
          rw [← hG]
          exact fr_set (fr_set (fr_set (fr_set (Fr.refl _ _) _ _) _ _) _ _) _ _
        have g0 := hbg.cell 0
        have g1 := hbg.cell 1
        have g2 := hbg.cell 2
        have g3 := hbg.cell 3
        simp only [List.getElem?_toArray, List.getElem?_cons_zero, List.getElem?_cons_succ] at g0 g1 g2 g3
        have HFG := Lib.hid hfG
        clear hbg hfG
        clear hbz
        go_wp2_with fail
        refine bodyPost_ret (v := .tuple #[PV.zero.agg, .int .i64 R.1]) (by simp [results, Try.results30, go_sem, g0, g1, g2, g3, PV.agg, PV.zero]) rfl ?_
        rw [HGOAL.out]
        refine ⟨PV.zero, fun b => w.heap.size ≤ b, fun b => w.heap.size ≤ b, rfl, PO.zero _ _ _, fun _ h => h, fun _ h => h, HEND.out _ _ HBF.out HFG.out, fun h => absurd h HR0.out, fun _ => rfl, fun x hx => by simp [PV.zero] at hx⟩
end Go.Proofs.Ytajmpoanmdgmpaa
/-
  ROWS OF OPERATIONS THAT COME IN.
-/
namespace Go.Proofs.Ytajmpoanmdgmpaa
open Go.RowKit

section
set_option maxHeartbeats 1000000 in
set_option maxRecDepth 100000 in
theorem copyOp_long (o : OV) (w : World) (h : o.In w All) (hm : o.m ≤ 140737488351232) : Calls Try.prog 29 #[o.agg] w (fun e w' => ∃ A c, e = .returned (OV.agg ⟨o.k, o.s, o.t, A, o.m, c, o.d⟩) ∧ Ow w' (fun b => w.heap.size ≤ b) (.slice A o.m c) o.m o.d ∧ o.m ≤ c ∧ (A = none → c = 0) ∧ Below w.heap.size w w') := by
  obtain ⟨W1, hW1, hBW1, hbx1, hsz1⟩ := box_op w o
  obtain ⟨W, hW⟩ : ∃ W, W1.alloc (.cells #[.int .i64 0, .int .i64 0, .int .u32 0, .slice none 0 0] 46) = W := ⟨_, rfl⟩
  have hBW : Below w.heap.size w W := by rw [← hW]; exact hBW1.alloc hBW1.size _
  have hbx : Blk W w.heap.size 46 (ocs o) := by rw [← hW]; exact hbx1.alloc _
  have hbr : Blk W W1.heap.size 46 #[.int .i64 0, .int .i64 0, .int .u32 0, .slice none 0 0] := by rw [← hW]; exact Blk.new W1 46 _
  have hsz : W.heap.size = w.heap.size + 2 := by rw [← hW]; simp [hsz1]
  obtain ⟨y0, y1, y2, y3⟩ := ocs_cells hbx
  have HBW := Lib.hid hBW
  have HBX := Lib.hid hbx
  have HBR := Lib.hid hbr
  have HSZ := Lib.hid hsz
  have HSZ1 := Lib.hid hsz1
  have HCO := Lib.hid (copy_any W All o.A o.m o.c o.d (h.below hBW).b (by omega))
  have hdl : o.d.length = o.m := h.b.len
  obtain ⟨k, s, t, A, m, c, d⟩ := o
  simp only at hW1 y0 y1 y2 y3 hdl HCO hm
  simp only [OV.agg]
  clear h hBW hbx hbr hsz hBW1 hbx1 hsz1
  go_enter Try.func29, Try.ntmps29
  go_wp2_with fail
  with_reducible refine HCO.out.mono ?_
  rintro e w2 ⟨v2, rfl, hnew, hb2⟩
  obtain ⟨A2, c2, rfl, hmc2, hnz2, _⟩ := Ow.reads hnew
  rw [hdl] at hnew hmc2
  rw [hdl]
  have hbx2 := HBX.out.below hb2 (by have := HSZ.out; omega)
  have hbr2 := HBR.out.below hb2 (by have := HSZ.out; have := HSZ1.out; omega)
  have hfz := hbx2.frozen 3
  obtain ⟨n0, n1, n2, n3⟩ := ocs_cells hbx2
  simp only at n0 n1 n2 n3
  obtain ⟨E, hE⟩ : ∃ E, w2.setCell ⟨w.heap.size, 3, none⟩ (.slice A2 m c2) = E := ⟨_, rfl⟩
  have hbx3 : Blk E w.heap.size 46 #[.int .i64 k, .int .i64 s, .int .u32 (t : Int), .slice A2 m c2] := by rw [← hE]; exact hbx2.set_ 3 _
  have hbr3 : Blk E W1.heap.size 46 #[.int .i64 0, .int .i64 0, .int .u32 0, .slice none 0 0] := by rw [← hE]; exact hbr2.far (by have := HSZ1.out; simp only; omega) _
  have hfE : Fr w2 E (fun b => b = w.heap.size) := by rw [← hE]; exact fr_set (Fr.refl _ _) _ _
  have e0 := hbx3.cell 0
  have e1 := hbx3.cell 1
  have e2 := hbx3.cell 2
  have e3 := hbx3.cell 3
  simp only [List.getElem?_toArray, List.getElem?_cons_zero, List.getElem?_cons_succ] at e0 e1 e2 e3
  have r0 := hbr3.cell 0
  have r1 := hbr3.cell 1
  have r2 := hbr3.cell 2
  have r3 := hbr3.cell 3
  have q0 := hbr3.frozen 0
  have q1 := hbr3.frozen 1
  have q2 := hbr3.frozen 2
  have q3 := hbr3.frozen 3
  simp only [List.getElem?_toArray, List.getElem?_cons_zero, List.getElem?_cons_succ] at r0 r1 r2 r3
  obtain ⟨G, hG⟩ : ∃ G, (((E.setCell ⟨W1.heap.size, 0, none⟩ (.int .i64 k)).setCell ⟨W1.heap.size, 1, none⟩ (.int .i64 s)).setCell ⟨W1.heap.size, 2, none⟩ (.int .u32 (t : Int))).setCell ⟨W1.heap.size, 3, none⟩ (.slice A2 m c2) = G := ⟨_, rfl⟩
  have hbg : Blk G W1.heap.size 46 #[.int .i64 k, .int .i64 s, .int .u32 (t : Int), .slice A2 m c2] := by rw [← hG]; exact (((hbr3.set_ 0 _).set_ 1 _).set_ 2 _).set_ 3 _
  have hfG : Fr E G (fun b => b = W1.heap.size) := by
    rw [← hG]
    exact fr_set (fr_set (fr_set (fr_set (Fr.refl _ _) _ _) _ _) _ _) _ _
  have g0 := hbg.cell 0
  have g1 := hbg.cell 1
  have g2 := hbg.cell 2
  have g3 := hbg.cell 3
  simp only [List.getElem?_toArray, List.getElem?_cons_zero, List.getElem?_cons_succ] at g0 g1 g2 g3
  have HFG := Lib.hid hfG
  clear hfG hbg
  have HFE := Lib.hid hfE
  have HNEW := Lib.hid hnew
  have HB2 := Lib.hid hb2
  have HC2 := Lib.hid (show m ≤ c2 ∧ (A2 = none → c2 = 0) from ⟨hmc2, hnz2⟩)
  clear hfE hnew hb2 hmc2 hnz2 hbx2 hbr2 hbx3 hbr3 hdl hm
  go_wp2_with fail
  refine bodyPost_ret (v := .agg #[.int .i64 k, .int .i64 s, .int .u32 (t : Int), .slice A2 m c2]) (by simp [results, Try.results29, go_sem, g0, g1, g2, g3]) rfl ?_
  have hf : Fr w2 G (fun b => b = w.heap.size ∨ b = W1.heap.size) := ((HFE.out.mono fun _ _ h => Or.inl h).trans HFG.out fun _ h => Or.inl (Or.inr h))
  refine ⟨A2, c2, rfl, ?_, HC2.out.1, HC2.out.2, ?_⟩
  · refine (HNEW.out.keep hf fun b hb hn => ?_).mono fun b _ hb => ?_
    · have := HSZ.out; have := HSZ1.out; omega
    · have := HSZ.out; omega
  · exact HBW.out.trans ((HB2.out.mono HBW.out.size).trans (hf.below (fun b hb => by have := HSZ1.out; omega) (by have := HBW.out.size; have := HB2.out.size; omega)))
end
/-- a slice of operations reads as l -/
def OR (w : World) (A : Option Addr) (n : Nat) (l : List OV) : Prop :=
  l.length = n ∧ (∀ x ∈ l, x.In w All ∧ x.m ≤ 140737488351232) ∧ n ≤ 9223372036854775807 ∧ (0 < n → ∃ g o, A = some ⟨g, o, none⟩ ∧ g < w.heap.size ∧ ∀ i x, l[i]? = some x →
    w.cell? ⟨g, o + i * 4, none⟩ = some (.int .i64 x.k) ∧ w.cell? ⟨g, o + i * 4 + 1, none⟩ = some (.int .i64 x.s) ∧ w.cell? ⟨g, o + i * 4 + 2, none⟩ = some (.int .u32 (x.t : Int)) ∧ w.cell? ⟨g, o + i * 4 + 3, none⟩ = some (.slice x.A x.m x.c))
theorem OR.below {w w' : World} {A : Option Addr} {n : Nat} {l : List OV} (h : OR w A n l) (hb : Below w.heap.size w w') : OR w' A n l := by
  obtain ⟨h1, h2, h3, h4⟩ := h
  refine ⟨h1, fun x hx => ⟨(h2 x hx).1.below hb, (h2 x hx).2⟩, h3, fun hn => ?_⟩
  obtain ⟨g, o, e, hg, hc⟩ := h4 hn
  refine ⟨g, o, e, Nat.lt_of_lt_of_le hg hb.size, fun i x hi => ?_⟩
  obtain ⟨a, b, c, d⟩ := hc i x hi
  have hbk := hb.block g hg
  exact ⟨(World.cell?_of_block hbk).trans a, (World.cell?_of_block hbk).trans b, (World.cell?_of_block hbk).trans c, (World.cell?_of_block hbk).trans d⟩
theorem OR.at_ {w : World} {A : Option Addr} {n : Nat} {l : List OV} (h : OR w A n l) {k : Nat} (hk : k < n) : ∃ g o x, A = some ⟨g, o, none⟩ ∧ g < w.heap.size ∧ l[k]? = some x ∧ x.In w All ∧ x.m ≤ 140737488351232 ∧
    w.cell? ⟨g, o + k * 4, none⟩ = some (.int .i64 x.k) ∧ w.cell? ⟨g, o + k * 4 + 1, none⟩ = some (.int .i64 x.s) ∧ w.cell? ⟨g, o + k * 4 + 2, none⟩ = some (.int .u32 (x.t : Int)) ∧ w.cell? ⟨g, o + k * 4 + 3, none⟩ = some (.slice x.A x.m x.c) := by
  obtain ⟨h1, h2, _, h4⟩ := h
  obtain ⟨g, o, e, hg, hc⟩ := h4 (by omega)
  have hl : l[k]? = some l[k] := List.getElem?_eq_getElem (by omega)
  obtain ⟨a, b, c, d⟩ := hc k _ hl
  have hm := h2 l[k] (List.getElem_mem _)
  exact ⟨g, o, l[k], e, hg, hl, hm.1, hm.2, a, b, c, d⟩
set_option maxRecDepth 100000 in
theorem cells3 : Try.prog.cellsOf 3 = 1 := by kernel_rfl
theorem weights_mem {H : Type} {P : Program} {t : TypeId} {x : Nat} {d : DataW H} (h : x ∈ d.weights P t) : ∀ {L : List (DataW H)}, d ∈ L → x ∈ DataW.weightsAll P t L
  | [], hd => by simp at hd
  | a :: r, hd => by
    rw [DataW.weightsAll, List.mem_append]
    rcases List.mem_cons.1 hd with rfl | hd
    · exact Or.inl h
    · exact Or.inr (weights_mem h hd)
open Go.ChangeShapes Go.WideShapes Go.ChangeAt
set_option maxRecDepth 100000 in
theorem ops_open {H : Type} {enc : TypeId × Value → H} {W : World} {a : Option Addr} {n c : Nat} {d : DataW H} {p : List MemPlace}
    (h : DataW.Trod enc Try.prog W 0 (fun _ => true) true 44 (.slice a n c) d p) (hw : ∀ x ∈ d.weights Try.prog 44, x ≤ reachBytes) : ∃ l, OR W a n l := by
  obtain ⟨fuel, hf⟩ := h
  rcases Go.Deep.open_slice Try.underlying44 hf with ⟨hcs, hx⟩ | ⟨ad, l, cap, m, f1, D, Pl, hcs, _, hl, hm, hmm, hx, hi⟩
  · simp [Value.cells] at hcs
    obtain ⟨rfl, rfl, rfl⟩ := hcs
    exact ⟨[], rfl, by simp, by omega, fun h => absurd h (by omega)⟩
  · simp [Value.cells] at hcs
    obtain ⟨rfl, rfl, rfl⟩ := hcs
    simp only [Prod.mk.injEq] at hx
    obtain ⟨hd, _⟩ := hx
    simp only [if_true] at hmm
    subst hmm
    have hwe : ∀ i, i < n → ∀ x ∈ (D i).weights Try.prog 46, x ≤ reachBytes := by
      intro i hin x hx
      refine hw x ?_
      rw [hd]
      simp only [DataW.weights, Try.underlying44, List.mem_cons, List.mem_append]
      exact Or.inr (Or.inl (weights_mem hx (List.mem_map_of_mem (List.mem_range.2 hin))))
    have key : ∀ i, i < n → ∃ s : OV, (s.In W All ∧ s.m ≤ 140737488351232) ∧ W.cell? (ad.add (i * 4)) = some (.int .i64 s.k) ∧ W.cell? (ad.add (i * 4 + 1)) = some (.int .i64 s.s) ∧ W.cell? (ad.add (i * 4 + 2)) = some (.int .u32 (s.t : Int)) ∧ W.cell? (ad.add (i * 4 + 3)) = some (.slice s.A s.m s.c) := by
      intro i hin
      obtain ⟨cs', hc, ht⟩ := hi i (by omega)
      rw [cells46] at hc
      obtain ⟨ys, n', hn', hy, hlen, hyl, hfl⟩ := DataW.trod_struct Try.underlying46 ht
      obtain ⟨_, hcl, hat⟩ := World.cells?_some hc
      have hwi := hwe i hin
      match cs', hcl with
      | [v0, v1, v2, v3], _ =>
        match ys, hyl with
        | [y0, y1, y2, y3], _ =>
          have g0 : DataW.trod enc Try.prog W 0 (fun _ => true) true n' 3 [v0] = some y0 := by
            have g := hfl 0 _ rfl
            simpa [cells3] using g
          have g1 : DataW.trod enc Try.prog W 0 (fun _ => true) true n' 3 [v1] = some y1 := by
            have g := hfl 1 _ rfl
            simpa [cells3] using g
          have g2 : DataW.trod enc Try.prog W 0 (fun _ => true) true n' 23 [v2] = some y2 := by
            have g := hfl 2 _ rfl
            simpa [cells23, cells3] using g
          have g3 : DataW.trod enc Try.prog W 0 (fun _ => true) true n' 32 [v3] = some y3 := by
            have g := hfl 3 _ rfl
            simpa [cells32, cells23, cells3] using g
          have hw3 : ∀ x ∈ y3.1.weights Try.prog 32, x ≤ reachBytes := by
            intro x hx
            refine hwi x ?_
            have e1 : D i = .agg [y0.1, y1.1, y2.1, y3.1] := by
              have h9 := congrArg Prod.fst hy
              simpa using h9
            rw [e1]
            simp [DataW.weights, Try.underlying46, DataW.weightsEach, hx]
          obtain ⟨q0, e0, _, w0⟩ := DataW.trod_int Try.underlying3 g0
          obtain ⟨q1, e1, _, w1⟩ := DataW.trod_int Try.underlying3 g1
          obtain ⟨q2, e2, _, w2⟩ := DataW.trod_int Try.underlying23 g2
          simp only [List.cons.injEq, and_true] at e0 e1 e2
          subst e0 e1 e2
          have b0 : -9223372036854775808 ≤ q0 ∧ q0 ≤ 9223372036854775807 := by simpa [Lit.wf, IntKind.min, IntKind.max, IntKind.signed, IntKind.bits] using w0
          have b1 : -9223372036854775808 ≤ q1 ∧ q1 ≤ 9223372036854775807 := by simpa [Lit.wf, IntKind.min, IntKind.max, IntKind.signed, IntKind.bits] using w1
          have b2 : 0 ≤ q2 ∧ q2 ≤ 4294967295 := by simpa [Lit.wf, IntKind.min, IntKind.max, IntKind.signed, IntKind.bits] using w2
          have f3 : ∃ A m c, v3 = .slice A m c := by
            rcases Go.Deep.open_slice Try.underlying32 g3 with ⟨hcs, _⟩ | ⟨ad, l, cap, m, f1, D, Pl, hcs, _⟩
            · simp only [List.cons.injEq, and_true] at hcs; exact ⟨_, _, _, hcs⟩
            · simp only [List.cons.injEq, and_true] at hcs; exact ⟨_, _, _, hcs⟩
          obtain ⟨A3, m3, c3, rfl⟩ := f3
          obtain ⟨l3, hr3, hmc3, hm3, hnz3⟩ := in_open (a := A3) (n := m3) (c := c3) (d := y3.1) (p := y3.2) ⟨n', by simpa [Value.cells] using g3⟩ (fun elems spare e => by
            have h9 := hw3
            rw [e] at h9
            simp only [DataW.weights, Try.underlying32] at h9
            exact h9 _ (List.mem_cons_self ..))
          obtain ⟨x2, rfl⟩ := Int.eq_ofNat_of_zero_le b2.1
          have k0 := hat 0 (by omega)
          have k1 := hat 1 (by omega)
          have k2 := hat 2 (by omega)
          have k3 := hat 3 (by omega)
          simp only [add_of_add] at k0 k1 k2 k3
          exact ⟨⟨q0, q1, x2, A3, m3, c3, l3⟩, ⟨⟨hr3.mono fun _ _ _ => trivial, b0.1, b0.2, b1.1, b1.2, by simp only; omega, hmc3, by simp only; omega, hnz3⟩, hm3⟩, by simpa using k0, by simpa using k1, by simpa using k2, by simpa using k3⟩
    obtain ⟨its, hlen, hits⟩ := list_of n key
    refine ⟨its, hlen, fun it hit => ?_, by simp only [maxLen] at hm; omega, fun hpos => ?_⟩
    · obtain ⟨i, hi⟩ := List.getElem?_of_mem hit
      exact (hits i it hi).1
    · obtain ⟨b, o, spot⟩ := ad
      obtain ⟨it0, _, h0, _⟩ := key 0 hpos
      have hspot : spot = none := by simpa [Addr.add] using World.cell?_spot h0
      subst hspot
      have hb := World.block_lt_of_cell? W _ h0
      rw [block_of_add] at hb
      refine ⟨b, o, rfl, hb, fun i it hi => ?_⟩
      obtain ⟨_, c0, c1, c2, c3⟩ := hits i it hi
      have e : ∀ j, (⟨b, o, none⟩ : Addr).add j = ⟨b, o + j, none⟩ := fun j => Addr.add_mid b o j
      simp only [e, ← Nat.add_assoc] at c0 c1 c2 c3
      exact ⟨c0, c1, c2, c3⟩
end Go.Proofs.Ytajmpoanmdgmpaa
