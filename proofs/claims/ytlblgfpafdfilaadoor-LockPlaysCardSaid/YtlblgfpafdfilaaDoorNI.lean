/-
STAGE 12: who waits for whom is told by Waits; a ring by two pairs. STAGE 12: what Waits tells is who waits for whom.
-/
import Derived.Test.YtlblgfpafdfilaaDoorNG
import Derived.Test.YtlblgfpafdfilaaDoorNF
namespace Go.Proofs.YtlblgfpafdfilaaDoor
open Go.RowKit Go.Sort

theorem inM_all (ls : List LK) (q : LK) (p o : Nat) (ht : (ls.getD o okz).t ≠ 0) (hw : waitM (ls.any (passP q)) q p (ls.getD o okz) o = true) : ∀ (pl : List Nat) (st : List (Nat × Nat) × Nat), (st.2 = 0 ∨ (q.t, st.2) ∈ st.1) → o ∈ pl → (q.t, (ls.getD o okz).t) ∈ (pl.foldl (inM ls q p) st).1
  | [], _, _, h => by cases h
  | o' :: r, st, hi, h => by
    rw [List.foldl_cons]
    have hi' : (inM ls q p st o').2 = 0 ∨ (q.t, (inM ls q p st o').2) ∈ (inM ls q p st o').1 := by
      unfold inM
      split
      · exact Or.inr (by simp)
      · exact hi
    rcases List.mem_cons.1 h with rfl | h
    · refine inM_mono ls q p _ r _ ?_
      unfold inM
      split
      · simp
      · rename_i hc
        rw [hw, Bool.and_true] at hc
        have e : (ls.getD o okz).t = st.2 := by simpa using hc
        rcases hi with hi | hi
        · omega
        · rw [e]; exact hi
    · exact inM_all ls q p o ht hw r _ hi' h
theorem outM_all (ls : List LK) (pl : List Nat) (p : Nat) (z : Nat × Nat) (hh : (ls.getD p okz).h = false) (h : ∀ acc, z ∈ (inL ls (ls.getD p okz) p pl acc).1) : ∀ (l : List Nat) (acc : List (Nat × Nat)), p ∈ l → z ∈ l.foldl (outM ls pl) acc
  | [], _, hp => by cases hp
  | p' :: r, acc, hp => by
    rw [List.foldl_cons]
    rcases List.mem_cons.1 hp with rfl | hp
    · refine outM_mono ls pl z r _ ?_
      unfold outM
      rw [if_neg (by rw [hh]; exact Bool.false_ne_true)]
      exact h acc
    · exact outM_all ls pl p z hh h r _ hp
theorem wt_mem {ls : List LK} (hI : Inv ls) {pl : List Nat} (hr : Rises ls pl) {a b : Nat} (h : Wt ls a b) : (a, b) ∈ waitsM ls pl := by
  obtain ⟨p, k, q, l, hq, hh, hl, hw, rfl, rfl⟩ := h
  have hmem : ∀ o, o < ls.length → o ∈ pl := fun o ho => hr.1.mem_iff.2 (List.mem_range.2 ho)
  have hg := hI.good l (List.mem_of_getElem? hl)
  refine outM_all ls pl p (q.t, l.t) (by rw [getD_of hq]; exact hh) (fun acc => ?_) pl [] (hmem p (List.getElem?_eq_some_iff.1 hq).1)
  rw [getD_of hq]
  have := inM_all ls q p k (by rw [getD_of hl]; have := hg.t; omega) (by rw [getD_of hl]; exact hw) pl (acc, 0) (Or.inl rfl) (hmem k (List.getElem?_eq_some_iff.1 hl).1)
  rw [getD_of hl] at this
  exact this
theorem Wt.ne {ls : List LK} {a b : Nat} (h : Wt ls a b) : b ≠ a := by
  obtain ⟨p, k, q, l, _, _, _, hw, rfl, rfl⟩ := h
  unfold waitM at hw
  simp only [Bool.and_eq_true] at hw
  simpa using hw.1.1.2
theorem ring_two {ls : List LK} (hI : Inv ls) {pl : List Nat} (hr : Rises ls pl) {a : Nat} (h : Wre ls a a) : 2 ≤ (waitsM ls pl).length := by
  have hx : ∃ z1 z2 : Nat × Nat, z1 ∈ waitsM ls pl ∧ z2 ∈ waitsM ls pl ∧ z1 ≠ z2 := by
    cases h with
    | one h => exact absurd rfl h.ne
    | @step _ b _ h1 h2 =>
      have hn : b ≠ a := h1.ne
      have : ∃ c, Wt ls b c := by
        cases h2 with
        | one h => exact ⟨_, h⟩
        | step h _ => exact ⟨_, h⟩
      obtain ⟨c, hc⟩ := this
      exact ⟨_, _, wt_mem hI hr h1, wt_mem hI hr hc, fun e => hn (congrArg Prod.fst e).symm⟩
  obtain ⟨z1, z2, h1, h2, hne⟩ := hx
  match waitsM ls pl, h1, h2 with
  | [x], h1, h2 => exact absurd ((List.mem_singleton.1 h1).trans (List.mem_singleton.1 h2).symm) hne
  | _ :: _ :: _, _, _ => simp
theorem waits_nilL {pl : List Nat} (hr : Rises [] pl) : waitsM [] pl = [] := by
  have : pl = [] := by
    have := hr.1.length_eq
    exact List.length_eq_zero_iff.1 (by simpa using this)
  rw [this]
  rfl
theorem all_fin {w0 w : World} {z g N : Nat} {ls : List LK} (h : TL w0 w z g ls) (hzs : z ≤ w0.heap.size) (hN : ls.length = N) :
    Calls Tryd.prog 12 #[.pointer (some ⟨g, 0, none⟩)] w fun e w' => ∃ A c, e = .returned (.slice A N c) ∧ OwR w' 46 7 lf (.slice A N c) ls ∧ TL w0 w' z g ls :=
  (h.all hzs).mono fun e w' ⟨v, he, hn, ht⟩ => by
    obtain ⟨A, c, hv, _⟩ := hn.1.form
    rw [hN] at hv
    subst hv
    exact ⟨A, c, he, hn.1, ht⟩
theorem waits_fin {w0 w : World} {z g : Nat} {ls : List LK} (h : TL w0 w z g ls) (hzs : z ≤ w0.heap.size) :
    Calls Tryd.prog 13 #[.pointer (some ⟨g, 0, none⟩)] w fun e w' => ∃ A c pl M, e = .returned (.slice A M c) ∧ (waitsM ls pl).length = M ∧ M ≤ 9223372036854775807 ∧ Rises ls pl ∧ OwR w' 47 2 pf (.slice A M c) (waitsM ls pl) ∧ TL w0 w' z g ls ∧ Below w.heap.size w w' :=
  (h.waits hzs).mono fun e w' ⟨v, pl, he, hr, ho, ht, hb⟩ => by
    obtain ⟨A, c, hv, hc, hm, _⟩ := ho.form
    subst hv
    exact ⟨A, c, pl, _, he, rfl, by have := Nat.le_trans hc hm; simpa [maxLen] using this, hr, ho, ht, hb⟩
theorem TL.fewL {w0 w : World} {z g : Nat} {ls : List LK} (h : TL w0 w z g ls) : ls.length ≤ 16384 := by
  obtain ⟨⟨v, hT, _⟩, _⟩ := h
  exact hT.few
/-- Victim of a table of a law's -/
theorem victim_fin {w0 w : World} {z g : Nat} {ls : List LK} (h : TL w0 w z g ls) (hzs : z ≤ w0.heap.size) (hF : Fine ls) (hL : Last ls) :
    ∃ v : Nat, (v = 0 ∨ Wre ls v v) ∧ (∀ a, Wre ls a a → a ≤ v) ∧ ∀ W, TL w0 W z g ls → Calls Tryd.prog 17 #[.pointer (some ⟨g, 0, none⟩)] W fun e w' => e = .returned (.int .u32 (v : Int)) ∧ TL w0 w' z g ls ∧ Below W.heap.size W w' := by
  obtain ⟨s, hs, h1, h2⟩ := victim_says hF hL h.fewL
  exact ⟨s.v, h1, h2, fun W hW => hW.victim hzs _ s hs⟩
end Go.Proofs.YtlblgfpafdfilaaDoor
namespace Go.Proofs.YtlblgfpafdfilaaDoor
open Go.RowKit Go.Sort

theorem inM_only (ls : List LK) (q : LK) (p : Nat) (z : Nat × Nat) : ∀ (pl : List Nat) (st : List (Nat × Nat) × Nat), z ∈ (pl.foldl (inM ls q p) st).1 → z ∈ st.1 ∨ ∃ o ∈ pl, waitM (ls.any (passP q)) q p (ls.getD o okz) o = true ∧ z = (q.t, (ls.getD o okz).t)
  | [], _, h => Or.inl h
  | o :: r, st, h => by
    rw [List.foldl_cons] at h
    rcases inM_only ls q p z r _ h with h | ⟨o', ho', h1, h2⟩
    · unfold inM at h
      split at h
      · rename_i hc
        rw [Bool.and_eq_true] at hc
        rcases List.mem_append.1 h with h | h
        · exact Or.inl h
        · exact Or.inr ⟨o, List.mem_cons_self, hc.2, List.mem_singleton.1 h⟩
      · exact Or.inl h
    · exact Or.inr ⟨o', List.mem_cons_of_mem _ ho', h1, h2⟩
theorem outM_only (ls : List LK) (pl : List Nat) (z : Nat × Nat) : ∀ (l : List Nat) (acc : List (Nat × Nat)), z ∈ l.foldl (outM ls pl) acc → z ∈ acc ∨ ∃ p ∈ l, (ls.getD p okz).h = false ∧ ∃ o ∈ pl, waitM (ls.any (passP (ls.getD p okz))) (ls.getD p okz) p (ls.getD o okz) o = true ∧ z = ((ls.getD p okz).t, (ls.getD o okz).t)
  | [], _, h => Or.inl h
  | p :: r, acc, h => by
    rw [List.foldl_cons] at h
    rcases outM_only ls pl z r _ h with h | ⟨p', hp', h⟩
    · unfold outM at h
      split at h
      · exact Or.inl h
      · rename_i hh
        rcases inM_only ls _ p z pl _ h with h | h
        · exact Or.inl h
        · exact Or.inr ⟨p, List.mem_cons_self, by simpa using hh, h⟩
    · exact Or.inr ⟨p', List.mem_cons_of_mem _ hp', h⟩
theorem mem_wt {ls : List LK} {pl : List Nat} (hr : Rises ls pl) {a b : Nat} (h : (a, b) ∈ waitsM ls pl) : Wt ls a b := by
  have hlt : ∀ o ∈ pl, o < ls.length := fun o ho => List.mem_range.1 (hr.1.mem_iff.1 ho)
  rcases outM_only ls pl (a, b) pl [] h with h | ⟨p, hp, hh, o, ho, hw, e⟩
  · cases h
  · have hq : ls[p]? = some (ls[p]'(hlt p hp)) := List.getElem?_eq_getElem _
    have hl : ls[o]? = some (ls[o]'(hlt o ho)) := List.getElem?_eq_getElem _
    rw [getD_of hq, getD_of hl] at hw e
    rw [getD_of hq] at hh
    injection e with e1 e2
    exact ⟨p, o, _, _, hq, hh, hl, hw, e1.symm, e2.symm⟩
/-- Waits tells just who waits for whom -/
theorem waits_iff {ls : List LK} (hI : Inv ls) {pl : List Nat} (hr : Rises ls pl) (a b : Nat) : (a, b) ∈ waitsM ls pl ↔ Wt ls a b := ⟨mem_wt hr, wt_mem hI hr⟩
end Go.Proofs.YtlblgfpafdfilaaDoor
