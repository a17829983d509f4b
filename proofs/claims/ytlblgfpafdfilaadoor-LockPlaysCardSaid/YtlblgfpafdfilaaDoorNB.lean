/-
STAGE 12: rings, as mathematics: the program's way of finding them (Tarjan's) finds them. STAGE 12: rings, as mathematics: one edge more; all of them. STAGE 12: rings, as mathematics: a ring closed; all of it. STAGE 12: rings, as mathematics: Victim.
-/
import Derived.Test.YtlblgfpafdfilaaDoorLU
namespace Go.Proofs.YtlblgfpafdfilaaDoor
open Go.RowKit Go.Sort

/-- an edge by way of the lock at place k -/
def Via (ls : List LK) (p k : Nat) : Prop := waitM (ls.any (passP (ls.getD p okz))) (ls.getD p okz) p (ls.getD k okz) k = true
def Ed (ls : List LK) (p r : Nat) : Prop := ∃ k, k < ls.length ∧ Via ls p k ∧ r = lastsF ls k
inductive Re (ls : List LK) : Nat → Nat → Prop
  | refl (a : Nat) : Re ls a a
  | step {a b c : Nat} : Ed ls a b → Re ls b c → Re ls a c
theorem Re.trans {ls : List LK} {a b c : Nat} (h : Re ls a b) (k : Re ls b c) : Re ls a c := by
  induction h with
  | refl => exact k
  | step e _ ih => exact .step e (ih k)
theorem Re.one {ls : List LK} {a b : Nat} (h : Ed ls a b) : Re ls a b := .step h (.refl b)
/-- on a ring -/
def Ring (ls : List LK) (a : Nat) : Prop := ∃ b, Ed ls a b ∧ Re ls b a
def nu (s : FSt) (p : Nat) : Nat := s.N.getD p 0
def tx (ls : List LK) (p : Nat) : Nat := (ls.getD p okz).t
theorem nu_set {N : List Nat} {p x : Nat} (hp : p < N.length) (y : Nat) : (N.set p x).getD y 0 = if y = p then x else N.getD y 0 := by
  rw [List.getD_eq_getElem?_getD, List.getElem?_set, List.getD_eq_getElem?_getD]
  by_cases h : p = y
  · subst h; rw [if_pos rfl, if_pos hp, if_pos rfl]; rfl
  · rw [if_neg h, if_neg fun e => h e.symm]
structure WT (ls : List LK) (s : FSt) (G : List Nat) : Prop where
  nl : s.N.length = ls.length
  mm : s.m ≤ 16384
  cnt : s.m + s.N.count 0 = ls.length
  on_ : ∀ p ∈ s.O, p < ls.length ∧ 1 ≤ nu s p ∧ nu s p ≤ s.m
  vis : ∀ p, p < ls.length → nu s p ≠ 0 → p ∈ s.O ∨ nu s p = closedN
  srt : s.O.Pairwise fun a b => nu s a < nu s b
  cl : ∀ p r, p < ls.length → nu s p = closedN → Ed ls p r → nu s r = closedN
  bw : ∀ p r, p ∈ s.O → p ∉ G → Ed ls p r → nu s r ≠ 0
  up : ∀ x ∈ s.O, ∀ y ∈ s.O, nu s x ≤ nu s y → Re ls x y
  gr : ∀ y ∈ s.O, ∃ g, g ∈ G ∧ g ∈ s.O ∧ nu s g ≤ nu s y ∧ Re ls y g
  gs : ∀ g ∈ G, g ∈ s.O
  v1 : s.v = 0 ∨ ∃ p, p < ls.length ∧ nu s p = closedN ∧ Ring ls p ∧ s.v = tx ls p
  v2 : ∀ p, p < ls.length → nu s p = closedN → Ring ls p → tx ls p ≤ s.v
theorem WT.lt_closed {ls : List LK} {s : FSt} {G : List Nat} (h : WT ls s G) {p : Nat} (hp : p ∈ s.O) : nu s p < closedN ∧ nu s p ≠ 0 := by
  have := h.on_ p hp
  have := h.mm
  unfold closedN
  omega
/-- what a walk from p has done -/
structure PT (ls : List LK) (s : FSt) (p : Nat) (G : List Nat) (s' : FSt) (low : Nat) : Prop where
  wt : WT ls s' G
  keep : ∀ y, nu s y ≠ 0 → nu s' y = nu s y
  pv : nu s' p = closedN ∨ s.m + 1 ≤ nu s' p
  mle : s.m + 1 ≤ s'.m
  sub : ∃ S, s'.O = s.O ++ S ∧ (∀ x ∈ S, ∀ y ∈ s.O, Ed ls x y → low ≤ nu s y)
  lw : low = s.m + 1 ∨ (low ≤ s.m ∧ ∃ y, y ∈ s.O ∧ nu s y = low ∧ Re ls p y)
/-- in the midst of p's edges -/
structure LT_ (ls : List LK) (s : FSt) (p : Nat) (G : List Nat) (k : Nat) (x : FSt × Nat) : Prop where
  wt : WT ls x.1 (p :: G)
  keep : ∀ y, nu s y ≠ 0 → nu x.1 y = nu s y
  np : nu x.1 p = s.m + 1
  mle : s.m + 1 ≤ x.1.m
  sub : ∃ S, x.1.O = s.O ++ p :: S ∧ (∀ u ∈ S, ∀ y ∈ s.O, Ed ls u y → x.2 ≤ nu s y)
  lw : x.2 = s.m + 1 ∨ (x.2 ≤ s.m ∧ ∃ y, y ∈ s.O ∧ nu s y = x.2 ∧ Re ls p y)
  ed : ∀ k', k' < k → Via ls p k' → nu x.1 (lastsF ls k') ≠ 0 ∧ (lastsF ls k' ∈ s.O → x.2 ≤ nu s (lastsF ls k'))
theorem LT_.ge {ls : List LK} {s : FSt} {p : Nat} {G : List Nat} {k : Nat} {x : FSt × Nat} (h : LT_ ls s p G k x) {y : Nat} (hy : y ∈ x.1.O) : y ∈ s.O ∨ s.m + 1 ≤ nu x.1 y := by
  obtain ⟨S, hS, _⟩ := h.sub
  rw [hS] at hy
  rcases List.mem_append.1 hy with hy | hy
  · exact Or.inl hy
  · right
    rcases List.mem_cons.1 hy with rfl | hy
    · rw [h.np]; exact Nat.le_refl _
    · have hs := h.wt.srt
      rw [hS, List.pairwise_append, List.pairwise_cons] at hs
      have := hs.2.1.1 y hy
      rw [h.np] at this
      omega
theorem LT_.le {ls : List LK} {s : FSt} {p : Nat} {G : List Nat} {k : Nat} {x : FSt × Nat} (h : LT_ ls s p G k x) : x.2 ≤ s.m + 1 := by
  rcases h.lw with h | h <;> omega
/-- p is marked -/
theorem start_ok {ls : List LK} {s : FSt} {G : List Nat} (h : WT ls s G) {p : Nat} (hp : p < ls.length) (h0 : nu s p = 0) (hG : ∀ g ∈ G, Re ls g p) (hm : s.m < 16384) :
    LT_ ls s p G 0 (⟨s.N.set p (s.m + 1), s.O ++ [p], s.m + 1, s.v⟩, s.m + 1) := by
  have hpN : p < s.N.length := by rw [h.nl]; exact hp
  have hn : ∀ y, nu ⟨s.N.set p (s.m + 1), s.O ++ [p], s.m + 1, s.v⟩ y = if y = p then s.m + 1 else nu s y := fun y => nu_set hpN y
  have hpO : p ∉ s.O := fun hx => by have := (h.on_ p hx).2.1; omega
  have hO : ∀ y ∈ s.O, y ≠ p := fun y hy e => hpO (e ▸ hy)
  have hnO : ∀ y ∈ s.O, nu ⟨s.N.set p (s.m + 1), s.O ++ [p], s.m + 1, s.v⟩ y = nu s y := fun y hy => by rw [hn, if_neg (hO y hy)]
  have hnp : nu ⟨s.N.set p (s.m + 1), s.O ++ [p], s.m + 1, s.v⟩ p = s.m + 1 := by rw [hn, if_pos rfl]
  have hc : s.m + 1 ≠ closedN := by unfold closedN; omega
  have hpos : 0 < s.N.count 0 := by
    have hx : s.N[p] = 0 := by
      have := h0
      unfold nu at this
      rw [List.getD_eq_getElem?_getD, List.getElem?_eq_getElem hpN] at this
      exact this
    exact List.count_pos_iff.2 (hx ▸ List.getElem_mem hpN)
  have hreach : ∀ y ∈ s.O, Re ls y p := fun y hy => by
    obtain ⟨g, hg, _, _, hr⟩ := h.gr y hy
    exact hr.trans (hG g hg)
  refine ⟨⟨by rw [List.length_set]; exact h.nl, by show s.m + 1 ≤ _; omega, ?_, fun y hy => ?_, fun y hy hv => ?_, ?_, fun y r hy hcl he => ?_, fun y r hy hg he => ?_, fun x hx y hy hxy => ?_, fun y hy => ?_, fun g hg => ?_, ?_, fun y hy hcl hr => ?_⟩, fun y hy => ?_, hnp, Nat.le_refl _, ⟨[], rfl, fun u hu => by cases hu⟩, Or.inl rfl, fun k' hk' => absurd hk' (Nat.not_lt_zero _)⟩
  · show s.m + 1 + (s.N.set p (s.m + 1)).count 0 = ls.length
    have hx : s.N[p] = 0 := by
      have := h0
      unfold nu at this
      rw [List.getD_eq_getElem?_getD, List.getElem?_eq_getElem hpN] at this
      exact this
    rw [List.count_set hpN, hx]
    have := h.cnt
    simp
    omega
  · rcases List.mem_append.1 hy with hy | hy
    · have := h.on_ y hy
      rw [hnO y hy]
      exact ⟨this.1, this.2.1, by show _ ≤ s.m + 1; omega⟩
    · rw [List.mem_singleton.1 hy, hnp]
      exact ⟨hp, by omega, Nat.le_refl _⟩
  · rw [hn] at hv ⊢
    by_cases e : y = p
    · exact Or.inl (by rw [e]; simp)
    · rw [if_neg e] at hv ⊢
      exact (h.vis y hy hv).imp (fun hx => List.mem_append_left _ hx) id
  · rw [List.pairwise_append]
    refine ⟨h.srt.imp_of_mem fun ha hb hab => by rw [hnO _ ha, hnO _ hb]; exact hab, by simp, fun a ha b hb => ?_⟩
    rw [List.mem_singleton.1 hb, hnO a ha, hnp]
    have := h.on_ a ha
    omega
  · rw [hn] at hcl ⊢
    by_cases e : y = p
    · rw [if_pos e] at hcl; exact absurd hcl hc
    · rw [if_neg e] at hcl
      have := h.cl y r hy hcl he
      by_cases e' : r = p
      · rw [e', h0] at this; exact absurd this (by unfold closedN; omega)
      · rw [if_neg e']; exact this
  · rcases List.mem_append.1 hy with hy | hy
    · have := h.bw y r hy (fun hx => hg (List.mem_cons_of_mem _ hx)) he
      rw [hn]
      split
      · omega
      · exact this
    · exact absurd (List.mem_singleton.1 hy ▸ List.mem_cons_self) hg
  · rcases List.mem_append.1 hx with hx | hx
    · rcases List.mem_append.1 hy with hy | hy
      · rw [hnO x hx, hnO y hy] at hxy
        exact h.up x hx y hy hxy
      · rw [List.mem_singleton.1 hy]; exact hreach x hx
    · rcases List.mem_append.1 hy with hy | hy
      · rw [List.mem_singleton.1 hx, hnp, hnO y hy] at hxy
        have := h.on_ y hy
        omega
      · rw [List.mem_singleton.1 hx, List.mem_singleton.1 hy]; exact Re.refl p
  · rcases List.mem_append.1 hy with hy | hy
    · obtain ⟨g, hg, hgo, hle, hr⟩ := h.gr y hy
      exact ⟨g, List.mem_cons_of_mem _ hg, List.mem_append_left _ hgo, by rw [hnO g hgo, hnO y hy]; exact hle, hr⟩
    · rw [List.mem_singleton.1 hy]
      exact ⟨p, List.mem_cons_self, by simp, Nat.le_refl _, Re.refl p⟩
  · rcases List.mem_cons.1 hg with rfl | hg
    · simp
    · exact List.mem_append_left _ (h.gs g hg)
  · rcases h.v1 with hv | ⟨y, hy, hcl, hr, hv⟩
    · exact Or.inl hv
    · refine Or.inr ⟨y, hy, ?_, hr, hv⟩
      rw [hn, if_neg fun e => by rw [e, h0] at hcl; exact absurd hcl (by unfold closedN; omega)]
      exact hcl
  · rw [hn] at hcl
    by_cases e : y = p
    · rw [if_pos e] at hcl; exact absurd hcl hc
    · rw [if_neg e] at hcl
      exact h.v2 y hy hcl hr
  · show nu _ y = nu s y
    rw [hn, if_neg fun e => by rw [e] at hy; exact hy h0]
end Go.Proofs.YtlblgfpafdfilaaDoor
namespace Go.Proofs.YtlblgfpafdfilaaDoor
open Go.RowKit Go.Sort

theorem lastTo_lt (ls : List LK) (t : Nat) : ∀ k i, i < k → (ls.getD i okz).t = t → lastTo ls t k < k
  | 0, i, hi, _ => absurd hi (Nat.not_lt_zero i)
  | k + 1, i, hi, h => by
    unfold lastTo
    by_cases e : (ls.getD k okz).t = t
    · rw [if_pos e]; omega
    · rw [if_neg e]
      have hne : i ≠ k := fun e' => e (by rw [← e']; exact h)
      have := lastTo_lt ls t k i (by omega) h
      omega
theorem lastsF_lt {ls : List LK} {k : Nat} (hk : k < ls.length) : lastsF ls k < ls.length := lastTo_lt ls _ _ k hk rfl
theorem Ed.lt {ls : List LK} {p r : Nat} (h : Ed ls p r) : r < ls.length := by
  obtain ⟨k, hk, _, rfl⟩ := h
  exact lastsF_lt hk
/-- what the walk over closer places promises -/
def Goes (ls : List LK) (f : Nat) (G : List Nat) (go : Nat → FSt → Option (FSt × Nat)) : Prop :=
  ∀ r s, WT ls s G → r < ls.length → nu s r = 0 → (∀ g ∈ G, Re ls g r) → s.N.count 0 ≤ f → ∃ s' low, go r s = some (s', low) ∧ PT ls s r G s' low
theorem step_ok {ls : List LK} {s : FSt} {p : Nat} {G : List Nat} {k f : Nat} {x : FSt × Nat} {go : Nat → FSt → Option (FSt × Nat)} (hs : WT ls s G) (hp : p < ls.length) (hk : k < ls.length) (hG : ∀ g ∈ G, Re ls g p)
    (hL : LT_ ls s p G k x) (hgo : Goes ls f (p :: G) go) (hc : x.1.N.count 0 ≤ f) : ∃ x', stepM go ls (ls.getD p okz) p k x = some x' ∧ LT_ ls s p G (k + 1) x' ∧ x'.1.N.count 0 ≤ f := by
  unfold stepM
  by_cases hv : Via ls p k
  · have hv' := hv
    unfold Via at hv'
    rw [if_pos hv']
    have hed : Ed ls p (lastsF ls k) := ⟨k, hk, hv, rfl⟩
    have hr := lastsF_lt hk
    generalize hrr : lastsF ls k = r at hed hr
    by_cases h0 : x.1.N.getD r 0 = 0
    · rw [if_pos h0]
      have hGr : ∀ g ∈ p :: G, Re ls g r := fun g hg => by
        rcases List.mem_cons.1 hg with rfl | hg
        · exact Re.one hed
        · exact (hG g hg).trans (Re.one hed)
      obtain ⟨s', low, hgo', hP⟩ := hgo r x.1 hL.wt hr h0 hGr hc
      rw [hgo']
      refine ⟨_, rfl, ?_, ?_⟩
      · have hle := hL.le
        obtain ⟨S, hS, hex⟩ := hL.sub
        obtain ⟨S2, hS2, hex2⟩ := hP.sub
        have hsO : ∀ y ∈ s.O, nu x.1 y = nu s y := fun y hy => hL.keep y (hs.lt_closed hy).2
        have hnr : s.m + 1 ≤ nu s' r := by
          rcases hP.pv with h | h
          · rw [h]; have := hs.mm; unfold closedN; omega
          · have := hL.mle; omega
        have hrO : r ∉ s.O := fun hr' => by
          have := hsO r hr'
          have h1 := (hs.lt_closed hr').2
          unfold nu at this h1
          rw [h0] at this
          exact h1 this.symm
        have hlow2 : low ≤ s.m → ∃ y, y ∈ s.O ∧ nu s y = low ∧ Re ls p y := fun hlo => by
          rcases hP.lw with h | ⟨_, y, hy, hny, hre⟩
          · have := hL.mle; omega
          · rcases hL.ge hy with hy' | hy'
            · exact ⟨y, hy', by rw [← hny, hsO y hy'], (Re.one hed).trans hre⟩
            · omega
        show LT_ ls s p G (k + 1) (s', min (min x.2 low) (nu s' r))
        refine ⟨hP.wt, fun y hy => ?_, ?_, ?_, ⟨S ++ S2, ?_, fun u hu y hy he => ?_⟩, ?_, fun k' hk' hv2 => ?_⟩
        · have h1 := hL.keep y hy
          rw [hP.keep y (by rw [h1]; exact hy), h1]
        · rw [hP.keep p (by rw [hL.np]; omega), hL.np]
        · have := hP.mle; have := hL.mle
          show s.m + 1 ≤ s'.m
          omega
        · rw [hS2, hS]; simp
        · rcases List.mem_append.1 hu with hu | hu
          · have := hex u hu y hy he
            omega
          · have := hex2 u hu y (by rw [hS]; exact List.mem_append_left _ hy) he
            rw [hsO y hy] at this
            omega
        · show min (min x.2 low) (nu s' r) = s.m + 1 ∨ (min (min x.2 low) (nu s' r) ≤ s.m ∧ ∃ y, y ∈ s.O ∧ nu s y = min (min x.2 low) (nu s' r) ∧ Re ls p y)
          by_cases hm : min x.2 low = s.m + 1
          · left; omega
          · right
            have e : min (min x.2 low) (nu s' r) = min x.2 low := by omega
            rw [e]
            refine ⟨by omega, ?_⟩
            rcases Nat.le_total x.2 low with h | h
            · rw [Nat.min_eq_left h]
              rcases hL.lw with h' | ⟨_, h'⟩
              · omega
              · exact h'
            · rw [Nat.min_eq_right h]
              exact hlow2 (by omega)
        · rcases Nat.lt_or_ge k' k with h | h
          · obtain ⟨h1, h2⟩ := hL.ed k' h hv2
            refine ⟨by show nu s' _ ≠ 0; rw [hP.keep _ h1]; exact h1, fun hin => ?_⟩
            have := h2 hin
            show min (min x.2 low) (nu s' r) ≤ _
            omega
          · obtain rfl : k' = k := by omega
            rw [hrr]
            exact ⟨by show nu s' r ≠ 0; omega, fun hin => absurd hin hrO⟩
      · have h1 := hP.wt.cnt
        have h2 := hL.wt.cnt
        have h3 := hP.mle
        show s'.N.count 0 ≤ f
        omega
    · rw [if_neg h0]
      refine ⟨_, rfl, ?_, hc⟩
      have hle := hL.le
      have hsO : ∀ y ∈ s.O, nu x.1 y = nu s y := fun y hy => hL.keep y (hs.lt_closed hy).2
      obtain ⟨S, hS, hex⟩ := hL.sub
      show LT_ ls s p G (k + 1) (x.1, min x.2 (nu x.1 r))
      refine ⟨hL.wt, hL.keep, hL.np, hL.mle, ⟨S, hS, fun u hu y hy he => ?_⟩, ?_, fun k' hk' hv2 => ?_⟩
      · have := hex u hu y hy he
        show min x.2 (nu x.1 r) ≤ _
        omega
      · show min x.2 (nu x.1 r) = s.m + 1 ∨ (min x.2 (nu x.1 r) ≤ s.m ∧ ∃ y, y ∈ s.O ∧ nu s y = min x.2 (nu x.1 r) ∧ Re ls p y)
        rcases Nat.le_total x.2 (nu x.1 r) with h | h
        · rw [Nat.min_eq_left h]; exact hL.lw
        · rw [Nat.min_eq_right h]
          by_cases hm : nu x.1 r = s.m + 1
          · exact Or.inl hm
          · right
            refine ⟨by omega, r, ?_, ?_, Re.one hed⟩
            · rcases hL.wt.vis r hr h0 with h' | h'
              · rcases hL.ge h' with h' | h'
                · exact h'
                · omega
              · have := hs.mm; unfold closedN at h'; omega
            · rcases hL.wt.vis r hr h0 with h' | h'
              · rcases hL.ge h' with h' | h'
                · exact (hsO r h').symm
                · omega
              · have := hs.mm; unfold closedN at h'; omega
      · rcases Nat.lt_or_ge k' k with h | h
        · obtain ⟨h1, h2⟩ := hL.ed k' h hv2
          refine ⟨h1, fun hin => ?_⟩
          have := h2 hin
          show min x.2 (nu x.1 r) ≤ _
          omega
        · obtain rfl : k' = k := by omega
          rw [hrr]
          refine ⟨h0, fun hin => ?_⟩
          have := hsO r hin
          show min x.2 (nu x.1 r) ≤ _
          omega
  · have hv' := hv
    unfold Via at hv'
    rw [if_neg hv']
    refine ⟨x, rfl, ⟨hL.wt, hL.keep, hL.np, hL.mle, hL.sub, hL.lw, fun k' hk' hv2 => ?_⟩, hc⟩
    rcases Nat.lt_or_ge k' k with h | h
    · exact hL.ed k' h hv2
    · obtain rfl : k' = k := by omega
      exact absurd hv2 hv
theorem loop_ok {ls : List LK} {s : FSt} {p : Nat} {G : List Nat} {f : Nat} {x : FSt × Nat} {go : Nat → FSt → Option (FSt × Nat)} (hs : WT ls s G) (hp : p < ls.length) (hG : ∀ g ∈ G, Re ls g p)
    (hL : LT_ ls s p G 0 x) (hgo : Goes ls f (p :: G) go) (hc : x.1.N.count 0 ≤ f) : ∀ k, k ≤ ls.length → ∃ x', loopM go ls (ls.getD p okz) p x k = some x' ∧ LT_ ls s p G k x' ∧ x'.1.N.count 0 ≤ f
  | 0, _ => ⟨x, rfl, hL, hc⟩
  | k + 1, hk => by
    obtain ⟨x1, h1, hL1, hc1⟩ := loop_ok hs hp hG hL hgo hc k (by omega)
    obtain ⟨x2, h2, hL2, hc2⟩ := step_ok hs hp (by omega) hG hL1 hgo hc1
    refine ⟨x2, ?_, hL2, hc2⟩
    unfold loopM
    rw [h1]
    exact h2
end Go.Proofs.YtlblgfpafdfilaaDoor
namespace Go.Proofs.YtlblgfpafdfilaaDoor
open Go.RowKit Go.Sort

theorem lastTo_t (ls : List LK) (t : Nat) : ∀ k i, i < k → (ls.getD i okz).t = t → (ls.getD (lastTo ls t k) okz).t = t
  | 0, i, hi, _ => absurd hi (Nat.not_lt_zero i)
  | k + 1, i, hi, h => by
    unfold lastTo
    by_cases e : (ls.getD k okz).t = t
    · rw [if_pos e]; exact e
    · rw [if_neg e]
      have hne : i ≠ k := fun e' => e (by rw [← e']; exact h)
      exact lastTo_t ls t k i (by omega) h
theorem lastsF_t {ls : List LK} {k : Nat} (hk : k < ls.length) : tx ls (lastsF ls k) = tx ls k := lastTo_t ls _ _ k hk rfl
/-- no edge joins a transaction to itself -/
theorem Ed.ne {ls : List LK} {p r : Nat} (h : Ed ls p r) : tx ls r ≠ tx ls p := by
  obtain ⟨k, hk, hv, rfl⟩ := h
  rw [lastsF_t hk]
  unfold Via waitM at hv
  simp only [Bool.and_eq_true] at hv
  have := hv.1.1.2
  simpa [tx] using this
theorem close_ok (ls : List LK) (many : Bool) : ∀ (Q : List Nat) (s : FSt), (∀ q ∈ Q, q < s.N.length) → (∀ q ∈ Q, nu s q ≠ 0) →
    (closeM ls many Q s).O = s.O ∧ (closeM ls many Q s).m = s.m ∧ (closeM ls many Q s).N.length = s.N.length ∧ (closeM ls many Q s).N.count 0 = s.N.count 0 ∧ (∀ y, nu (closeM ls many Q s) y = if y ∈ Q then closedN else nu s y) ∧
    s.v ≤ (closeM ls many Q s).v ∧ ((closeM ls many Q s).v = s.v ∨ (many = true ∧ ∃ q ∈ Q, (closeM ls many Q s).v = tx ls q)) ∧ (many = true → ∀ q ∈ Q, tx ls q ≤ (closeM ls many Q s).v)
  | [], s, _, _ => ⟨rfl, rfl, rfl, rfl, fun y => by simp [closeM], Nat.le_refl _, Or.inl rfl, fun _ q hq => by cases hq⟩
  | p :: r, s, hl, hz => by
    have hpl := hl p List.mem_cons_self
    have hpz := hz p List.mem_cons_self
    have hc0 : closedN ≠ 0 := by unfold closedN; omega
    have hn1 : ∀ y, nu { s with N := s.N.set p closedN, v := if many = true then max s.v (ls.getD p okz).t else s.v } y = if y = p then closedN else nu s y := fun y => nu_set hpl y
    obtain ⟨h1, h2, h3, h4, h5, h6, h7, h8⟩ := close_ok ls many r { s with N := s.N.set p closedN, v := if many = true then max s.v (ls.getD p okz).t else s.v } (fun q hq => by rw [List.length_set]; exact hl q (List.mem_cons_of_mem _ hq)) (fun q hq => by
      rw [hn1]
      split
      · exact hc0
      · exact hz q (List.mem_cons_of_mem _ hq))
    have e : closeM ls many (p :: r) s = closeM ls many r { s with N := s.N.set p closedN, v := if many = true then max s.v (ls.getD p okz).t else s.v } := rfl
    rw [e]
    have hcnt : (s.N.set p closedN).count 0 = s.N.count 0 := by
      have hx : s.N[p] ≠ 0 := by
        unfold nu at hpz
        rw [List.getD_eq_getElem?_getD, List.getElem?_eq_getElem hpl] at hpz
        exact hpz
      rw [List.count_set hpl]
      have e1 : (s.N[p] == 0) = false := by simpa using hx
      have e2 : (closedN == 0) = false := by simpa using hc0
      rw [e1, e2]
      simp
    refine ⟨h1, h2, h3.trans (List.length_set ..), h4.trans hcnt, fun y => ?_, ?_, ?_, fun hm q hq => ?_⟩
    · rw [h5, hn1]
      by_cases e1 : y ∈ r
      · rw [if_pos e1, if_pos (List.mem_cons_of_mem _ e1)]
      · rw [if_neg e1]
        by_cases e2 : y = p
        · rw [if_pos e2, if_pos (by rw [e2]; exact List.mem_cons_self)]
        · rw [if_neg e2, if_neg fun h => by rcases List.mem_cons.1 h with h | h; exact e2 h; exact e1 h]
    · refine Nat.le_trans ?_ h6
      show s.v ≤ if many = true then max s.v (ls.getD p okz).t else s.v
      split <;> omega
    · rcases h7 with h7 | ⟨hm, q, hq, h7⟩
      · cases many with
        | false => exact Or.inl h7
        | true =>
          have h7' : _ = max s.v (ls.getD p okz).t := h7
          rcases Nat.le_total s.v (ls.getD p okz).t with h | h
          · exact Or.inr ⟨rfl, p, List.mem_cons_self, h7'.trans (Nat.max_eq_right h)⟩
          · exact Or.inl (h7'.trans (Nat.max_eq_left h))
      · exact Or.inr ⟨hm, q, List.mem_cons_of_mem _ hq, h7⟩
    · rcases List.mem_cons.1 hq with rfl | hq
      · refine Nat.le_trans ?_ h6
        show tx ls q ≤ if many = true then max s.v (ls.getD q okz).t else s.v
        rw [if_pos hm]
        unfold tx
        omega
      · exact h8 hm q hq
theorem end_open {ls : List LK} {s : FSt} {p : Nat} {G : List Nat} {x : FSt × Nat} (hs : WT ls s G) (hp : p < ls.length) (hL : LT_ ls s p G ls.length x) (hlt : x.2 < s.m + 1) : PT ls s p G x.1 x.2 := by
  obtain ⟨S, hS, hex⟩ := hL.sub
  have hpe : ∀ r, Ed ls p r → nu x.1 r ≠ 0 ∧ (r ∈ s.O → x.2 ≤ nu s r) := fun r hr => by
    obtain ⟨k, hk, hv, rfl⟩ := hr
    exact hL.ed k hk hv
  have hpO : p ∈ x.1.O := by rw [hS]; simp
  have hsO : ∀ y ∈ s.O, y ∈ x.1.O := fun y hy => by rw [hS]; exact List.mem_append_left _ hy
  have hw := hL.wt
  rcases hL.lw with h | ⟨hle, y0, hy0, hn0, hr0⟩
  · omega
  refine ⟨⟨hw.nl, hw.mm, hw.cnt, hw.on_, hw.vis, hw.srt, hw.cl, fun y r hy hg he => ?_, hw.up, fun y hy => ?_, fun g hg => hw.gs g (List.mem_cons_of_mem _ hg), hw.v1, hw.v2⟩, hL.keep, Or.inr (by rw [hL.np]; exact Nat.le_refl _), hL.mle, ⟨p :: S, hS, fun u hu y hy he => ?_⟩, Or.inr ⟨hle, y0, hy0, hn0, hr0⟩⟩
  · by_cases e : y = p
    · rw [e] at he
      exact (hpe r he).1
    · exact hw.bw y r hy (fun h => by rcases List.mem_cons.1 h with h | h; exact e h; exact hg h) he
  · obtain ⟨g, hg, hgo, hgle, hgr⟩ := hw.gr y hy
    rcases List.mem_cons.1 hg with rfl | hg
    · obtain ⟨g0, hg0, hgo0, hgle0, hgr0⟩ := hw.gr y0 (hsO y0 hy0)
      have hn0' : nu x.1 y0 = nu s y0 := hL.keep y0 (hs.lt_closed hy0).2
      have hnp := hL.np
      rcases List.mem_cons.1 hg0 with rfl | hg0
      · omega
      · exact ⟨g0, hg0, hgo0, by omega, (hgr.trans hr0).trans hgr0⟩
    · exact ⟨g, hg, hgo, hgle, hgr⟩
  · rcases List.mem_cons.1 hu with rfl | hu
    · exact (hpe y he).2 hy
    · exact hex u hu y hy he
theorem end_close {ls : List LK} {s : FSt} {p : Nat} {G : List Nat} {x : FSt × Nat} (hs : WT ls s G) (hp : p < ls.length) (hL : LT_ ls s p G ls.length x) (hge : ¬ x.2 < s.m + 1) (S : List Nat) (hS : x.1.O = s.O ++ p :: S) (hex : ∀ u ∈ S, ∀ y ∈ s.O, Ed ls u y → x.2 ≤ nu s y) :
    PT ls s p G (closeM ls (decide (1 < (p :: S).length)) (p :: S) { x.1 with O := s.O }) (s.m + 1) := by
  have hpe : ∀ r, Ed ls p r → nu x.1 r ≠ 0 ∧ (r ∈ s.O → x.2 ≤ nu s r) := fun r hr => by
    obtain ⟨k, hk, hv, rfl⟩ := hr
    exact hL.ed k hk hv
  have hw := hL.wt
  obtain ⟨Q, hQ⟩ : ∃ Q, Q = p :: S := ⟨_, rfl⟩
  rw [← hQ] at hS ⊢
  have hpQ : p ∈ Q := by rw [hQ]; exact List.mem_cons_self
  have hQO : ∀ q ∈ Q, q ∈ x.1.O := fun q hq => by rw [hS]; exact List.mem_append_right _ hq
  have hsO : ∀ y ∈ s.O, y ∈ x.1.O := fun y hy => by rw [hS]; exact List.mem_append_left _ hy
  have hns : ∀ y ∈ s.O, nu x.1 y = nu s y := fun y hy => hL.keep y (hs.lt_closed hy).2
  have hnp := hL.np
  have hQn : ∀ q ∈ Q, s.m + 1 ≤ nu x.1 q := fun q hq => by
    rw [hQ] at hq
    rcases List.mem_cons.1 hq with rfl | hq
    · omega
    · have h := hw.srt
      rw [hS, hQ, List.pairwise_append, List.pairwise_cons] at h
      have := h.2.1.1 q hq
      omega
  have hdis : ∀ y ∈ s.O, y ∉ Q := fun y hy hq => by
    have h1 := hQn y hq
    have h2 := (hs.on_ y hy).2.2
    have h3 := hns y hy
    omega
  have hF1 : ∀ u ∈ Q, ∀ y, Ed ls u y → y ∉ s.O := fun u hu y he hy => by
    have h2 := (hs.on_ y hy).2.2
    rw [hQ] at hu
    rcases List.mem_cons.1 hu with rfl | hu
    · have := (hpe y he).2 hy; omega
    · have := hex u hu y hy he; omega
  have hGQ : ∀ g ∈ G, g ∉ Q := fun g hg => hdis g (hs.gs g hg)
  have hF2 : ∀ u ∈ Q, ∀ y, Ed ls u y → y ∈ Q ∨ nu x.1 y = closedN := fun u hu y he => by
    have hv : nu x.1 y ≠ 0 := by
      by_cases e : u = p
      · rw [e] at he; exact (hpe y he).1
      · exact hw.bw u y (hQO u hu) (fun h => by rcases List.mem_cons.1 h with h | h; exact e h; exact hGQ u h hu) he
    rcases hw.vis y he.lt hv with h | h
    · rw [hS] at h
      rcases List.mem_append.1 h with h | h
      · exact absurd h (hF1 u hu y he)
      · exact Or.inl h
    · exact Or.inr h
  have hF3 : ∀ a b, Re ls a b → (a ∈ Q ∨ (a < ls.length ∧ nu x.1 a = closedN)) → (b ∈ Q ∨ (b < ls.length ∧ nu x.1 b = closedN)) := fun a b hr => by
    induction hr with
    | refl => exact id
    | step he _ ih =>
      intro h
      apply ih
      rcases h with h | ⟨hlt, h⟩
      · exact (hF2 _ h _ he).imp id fun h => ⟨he.lt, h⟩
      · exact Or.inr ⟨he.lt, hw.cl _ _ hlt h he⟩
  have hF4 : ∀ a b, Re ls a b → a < ls.length → nu x.1 a = closedN → nu x.1 b = closedN := fun a b hr => by
    induction hr with
    | refl => exact fun _ h => h
    | step he _ ih => exact fun hlt h => ih he.lt (hw.cl _ _ hlt h he)
  have hop : ∀ y ∈ x.1.O, nu x.1 y ≠ closedN := fun y hy => by have := (hw.lt_closed hy).1; omega
  have hup : ∀ u ∈ Q, Re ls u p := fun u hu => by
    obtain ⟨g, hg, hgo, _, hgr⟩ := hw.gr u (hQO u hu)
    rcases List.mem_cons.1 hg with rfl | hg
    · exact hgr
    · rcases hF3 u g hgr (Or.inl hu) with h | ⟨_, h⟩
      · exact absurd h (hGQ g hg)
      · exact absurd h (hop g hgo)
  have hdown : ∀ u ∈ Q, Re ls p u := fun u hu => hw.up p (hQO p hpQ) u (hQO u hu) (by rw [hnp]; exact hQn u hu)
  have hring : 1 < Q.length → ∀ q ∈ Q, Ring ls q := fun hlen q hq => by
    have hnd : ∃ u ∈ Q, u ≠ q := by
      rw [hQ] at hlen hq ⊢
      match S, hlen with
      | u2 :: r2, _ =>
        by_cases e : p = q
        · refine ⟨u2, by simp, fun e2 => ?_⟩
          have h := hw.srt
          rw [hS, hQ, List.pairwise_append, List.pairwise_cons] at h
          have := h.2.1.1 u2 List.mem_cons_self
          rw [e, e2] at this
          omega
        · exact ⟨p, by simp, e⟩
    obtain ⟨u, hu, hne⟩ := hnd
    have h1 := (hup q hq).trans (hdown u hu)
    cases h1 with
    | refl => exact absurd rfl hne
    | step he hr => exact ⟨_, he, (hr.trans (hup u hu)).trans (hdown q hq)⟩
  have hxl : ∀ q ∈ Q, q < x.1.N.length := fun q hq => by rw [hw.nl]; exact (hw.on_ q (hQO q hq)).1
  obtain ⟨c1, c2, c3, c4, c5, c6, c7, c8⟩ := close_ok ls (decide (1 < Q.length)) Q { x.1 with O := s.O } hxl (fun q hq => (hw.lt_closed (hQO q hq)).2)
  have hn' : ∀ y, nu { x.1 with O := s.O } y = nu x.1 y := fun y => rfl
  simp only [hn'] at c5
  generalize closeM ls (decide (1 < Q.length)) Q { x.1 with O := s.O } = s' at c1 c2 c3 c4 c5 c6 c7 c8 ⊢
  have hno : ∀ y ∈ s.O, nu s' y = nu s y := fun y hy => by rw [c5, if_neg (hdis y hy), hns y hy]
  have hcc : ∀ y, nu x.1 y = closedN → nu s' y = closedN := fun y h => by rw [c5]; split; rfl; exact h
  have hc0 : closedN ≠ 0 := by unfold closedN; omega
  refine ⟨⟨c3.trans hw.nl, by rw [c2]; exact hw.mm, by rw [c2, c4]; exact hw.cnt, fun y hy => ?_, fun y hy hv => ?_, ?_, fun a r ha hcl he => ?_, fun y r hy hg he => ?_, fun a ha b hb hab => ?_, fun y hy => ?_, fun g hg => by rw [c1]; exact hs.gs g hg, ?_, fun a ha hcl hr => ?_⟩, fun y hy => ?_, Or.inl (by rw [c5, if_pos hpQ]), by rw [c2]; exact hL.mle, ⟨[], by rw [c1]; simp, fun u hu => by cases hu⟩, Or.inl rfl⟩
  · rw [c1] at hy
    have := hs.on_ y hy
    have h2 := hL.mle
    rw [hno y hy, c2]
    exact ⟨this.1, this.2.1, by show _ ≤ x.1.m; omega⟩
  · rw [c1]
    rw [c5] at hv ⊢
    by_cases e : y ∈ Q
    · exact Or.inr (by rw [if_pos e])
    · rw [if_neg e] at hv ⊢
      rcases hw.vis y hy hv with h | h
      · rw [hS] at h
        rcases List.mem_append.1 h with h | h
        · exact Or.inl h
        · exact absurd h e
      · exact Or.inr h
  · rw [c1]
    exact hs.srt.imp_of_mem fun ha hb hab => by rw [hno _ ha, hno _ hb]; exact hab
  · rw [c5] at hcl
    by_cases e : a ∈ Q
    · rcases hF2 a e r he with h | h
      · rw [c5, if_pos h]
      · exact hcc r h
    · rw [if_neg e] at hcl
      exact hcc r (hw.cl a r ha hcl he)
  · rw [c1] at hy
    have := hw.bw y r (hsO y hy) (fun h => by rcases List.mem_cons.1 h with h | h; exact hdis y hy (h ▸ hpQ); exact hg h) he
    rw [c5]
    split
    · exact hc0
    · exact this
  · rw [c1] at ha hb
    rw [hno a ha, hno b hb] at hab
    exact hs.up a ha b hb hab
  · rw [c1] at hy
    obtain ⟨g, hg, hgo, hle, hr⟩ := hs.gr y hy
    exact ⟨g, hg, by rw [c1]; exact hgo, by rw [hno g hgo, hno y hy]; exact hle, hr⟩
  · rcases c7 with h | ⟨hm, q, hq, h⟩
    · rcases hw.v1 with hv | ⟨y, hy, hcl, hr, hv⟩
      · exact Or.inl (h.trans hv)
      · exact Or.inr ⟨y, hy, hcc y hcl, hr, h.trans hv⟩
    · exact Or.inr ⟨q, (hw.on_ q (hQO q hq)).1, by rw [c5, if_pos hq], hring (of_decide_eq_true hm) q hq, h⟩
  · rw [c5] at hcl
    by_cases e : a ∈ Q
    · by_cases hm : 1 < Q.length
      · exact c8 (decide_eq_true hm) a e
      · exfalso
        have hS0 : S = [] := by
          rw [hQ, List.length_cons] at hm
          exact List.length_eq_zero_iff.1 (by omega)
        rw [hQ, hS0, List.mem_singleton] at e
        rw [e] at hr
        obtain ⟨b, he, hre⟩ := hr
        rcases hF2 p hpQ b he with h | h
        · rw [hQ, hS0, List.mem_singleton] at h
          rw [h] at he
          exact he.ne rfl
        · exact hop p (hQO p hpQ) (hF4 b p hre he.lt h)
    · rw [if_neg e] at hcl
      exact Nat.le_trans (hw.v2 a ha hcl hr) c6
  · have h1 := hL.keep y hy
    rw [c5]
    by_cases e : y ∈ Q
    · exfalso
      rcases hs.vis y (hw.on_ y (hQO y e)).1 hy with h | h
      · exact hdis y h e
      · exact hop y (hQO y e) (h1.trans h)
    · rw [if_neg e]; exact h1
end Go.Proofs.YtlblgfpafdfilaaDoor
namespace Go.Proofs.YtlblgfpafdfilaaDoor
open Go.RowKit Go.Sort

theorem count_pos {s : FSt} {p : Nat} (hp : p < s.N.length) (h0 : nu s p = 0) : 0 < s.N.count 0 := by
  have hx : s.N[p] = 0 := by
    unfold nu at h0
    rw [List.getD_eq_getElem?_getD, List.getElem?_eq_getElem hp] at h0
    exact h0
  exact List.count_pos_iff.2 (hx ▸ List.getElem_mem hp)
theorem follow_ok {ls : List LK} (hlen : ls.length ≤ 16384) : ∀ (f : Nat) (G : List Nat), Goes ls f G (followM ls f)
  | 0, G => fun r s h hr h0 _ hc => by have := count_pos (by rw [h.nl]; exact hr) h0; omega
  | f + 1, G => fun r s h hr h0 hG hc => by
    have hcp := count_pos (by rw [h.nl]; exact hr) h0
    have hcn := h.cnt
    have hm : s.m < 16384 := by omega
    have hL0 := start_ok h hr h0 hG hm
    have hc0 := hL0.wt.cnt
    obtain ⟨x, hx, hL, _⟩ := loop_ok h hr hG hL0 (follow_ok hlen f (r :: G)) (by simp only at hc0 ⊢; omega) ls.length (Nat.le_refl _)
    unfold followM
    rw [if_neg (by omega), hx]
    show ∃ s' low, endM ls (s.m + 1) s.O.length x = some (s', low) ∧ _
    unfold endM
    by_cases hlt : x.2 < s.m + 1
    · rw [if_pos hlt]
      exact ⟨x.1, x.2, rfl, end_open h hr hL hlt⟩
    · rw [if_neg hlt]
      obtain ⟨S, hS, hex⟩ := hL.sub
      have hl : x.1.O.length - s.O.length = (r :: S).length := by rw [hS, List.length_append]; omega
      rw [if_neg (by rw [hS, List.length_append, List.length_cons]; omega), hl]
      have hd : x.1.O.drop s.O.length = r :: S := by rw [hS]; simp
      have ht : x.1.O.take s.O.length = s.O := by rw [hS]; simp
      rw [hd, ht]
      exact ⟨_, _, rfl, end_close h hr hL hlt S hS hex⟩
theorem begin_ok (ls : List LK) : WT ls ⟨List.replicate ls.length 0, [], 0, 0⟩ [] := by
  have hn : ∀ y, nu ⟨List.replicate ls.length 0, [], 0, 0⟩ y = 0 := fun y => by
    unfold nu
    rw [List.getD_eq_getElem?_getD, List.getElem?_replicate]
    split <;> rfl
  have hc : (0 : Nat) ≠ closedN := by unfold closedN; omega
  refine ⟨by simp, by simp, by simp, (fun p hp => by cases hp), fun p _ h => absurd (hn p) h, List.Pairwise.nil, fun p r _ h => ?_, (fun p r hp => by cases hp), (fun x hx => by cases hx), (fun y hy => by cases hy), (fun g hg => by cases hg), Or.inl rfl, fun p _ h => ?_⟩
  · rw [hn] at h; exact absurd h hc
  · rw [hn] at h; exact absurd h hc
theorem rings_ok {ls : List LK} (hlen : ls.length ≤ 16384) : ∀ k, k ≤ ls.length → ∃ s, ringsM ls (ls.length + 1) k = some s ∧ WT ls s [] ∧ ∀ p, p < k → (ls.getD p okz).h = false → nu s p ≠ 0
  | 0, _ => ⟨_, rfl, begin_ok ls, fun p hp => absurd hp (Nat.not_lt_zero p)⟩
  | k + 1, hk => by
    obtain ⟨s, hs, hw, hv⟩ := rings_ok hlen k (by omega)
    unfold ringsM
    rw [hs]
    show ∃ s', (if ((ls.getD k okz).h = false ∧ s.N.getD k 0 = 0) then (followM ls (ls.length + 1) k s).map Prod.fst else some s) = some s' ∧ _
    by_cases hc : ((ls.getD k okz).h = false ∧ s.N.getD k 0 = 0)
    · rw [if_pos hc]
      have hcn := hw.cnt
      obtain ⟨s', low, hf, hP⟩ := follow_ok hlen (ls.length + 1) [] k s hw (by omega) hc.2 (fun g hg => by cases hg) (by omega)
      refine ⟨s', by rw [hf]; rfl, hP.wt, fun p hp hh => ?_⟩
      rcases Nat.lt_or_ge p k with h | h
      · rw [hP.keep p (hv p h hh)]; exact hv p h hh
      · obtain rfl : p = k := by omega
        rcases hP.pv with h | h
        · rw [h]; unfold closedN; omega
        · omega
    · rw [if_neg hc]
      refine ⟨s, rfl, hw, fun p hp hh => ?_⟩
      rcases Nat.lt_or_ge p k with h | h
      · exact hv p h hh
      · obtain rfl : p = k := by omega
        exact fun h0 => hc ⟨hh, h0⟩
theorem WT.none_open {ls : List LK} {s : FSt} (h : WT ls s []) : s.O = [] := by
  match hO : s.O with
  | [] => rfl
  | y :: r =>
    obtain ⟨g, hg, _⟩ := h.gr y (by rw [hO]; exact List.mem_cons_self)
    cases hg
/-- what Victim says -/
theorem rings_all {ls : List LK} (hlen : ls.length ≤ 16384) : ∃ s, ringsM ls (ls.length + 1) ls.length = some s ∧ (s.v = 0 ∨ ∃ p, p < ls.length ∧ Ring ls p ∧ s.v = tx ls p) ∧ ∀ p, p < ls.length → (ls.getD p okz).h = false → Ring ls p → tx ls p ≤ s.v := by
  obtain ⟨s, hs, hw, hv⟩ := rings_ok hlen ls.length (Nat.le_refl _)
  refine ⟨s, hs, hw.v1.imp id fun ⟨p, hp, _, hr, h⟩ => ⟨p, hp, hr, h⟩, fun p hp hh hr => ?_⟩
  rcases hw.vis p hp (hv p hp hh) with h | h
  · rw [hw.none_open] at h; cases h
  · exact hw.v2 p hp h hr
end Go.Proofs.YtlblgfpafdfilaaDoor
