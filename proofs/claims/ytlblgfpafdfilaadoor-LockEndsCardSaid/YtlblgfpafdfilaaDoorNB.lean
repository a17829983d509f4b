/-
  STAGE 12: rings, as mathematics: the program's way of finding them (Tarjan's) finds them.
-/
import Derived.Test.YtlblgfpafdfilaaDoorLV
namespace Go.Proofs.YtlblgfpafdfilaaDoor
open Go.RowKit Go.Sort

/-- an edge by way of the lock at place k -/
def Via (ls : List LK) (p k : Nat) : Prop := waitM (ls.any (passP (ls.getD p okz))) (ls.getD p okz) p (ls.getD k okz) k = true
def Ed (ls : List LK) (p r : Nat) : Prop := ∃ k, k < ls.length ∧ Via ls p k ∧ r = lastsF ls k
inductive Re (ls : List LK) : Nat → Nat → Prop
  | refl (a : Nat) : Re ls a a
  | step {a b c : Nat} : Ed ls a b → Re ls b c → Re ls a c
theorem Re.trans {ls : List LK} {a b c : Nat} (h : Re ls a b) (k : Re ls b c) : Re ls a c := by
  induction h with
  | refl => exact k
  | step e _ ih => exact .step e (ih k)
theorem Re.one {ls : List LK} {a b : Nat} (h : Ed ls a b) : Re ls a b := .step h (.refl b)
/-- on a ring -/
def Ring (ls : List LK) (a : Nat) : Prop := ∃ b, Ed ls a b ∧ Re ls b a
def nu (s : FSt) (p : Nat) : Nat := s.N.getD p 0
def tx (ls : List LK) (p : Nat) : Nat := (ls.getD p okz).t
theorem nu_set {N : List Nat} {p x : Nat} (hp : p < N.length) (y : Nat) : (N.set p x).getD y 0 = if y = p then x else N.getD y 0 := by
  rw [List.getD_eq_getElem?_getD, List.getElem?_set, List.getD_eq_getElem?_getD]
  by_cases h : p = y
  · subst h; rw [if_pos rfl, if_pos hp, if_pos rfl]; rfl
  · rw [if_neg h, if_neg fun e => h e.symm]
structure WT (ls : List LK) (s : FSt) (G : List Nat) : Prop where
  nl : s.N.length = ls.length
  mm : s.m ≤ 16384
  cnt : s.m + s.N.count 0 = ls.length
  on_ : ∀ p ∈ s.O, p < ls.length ∧ 1 ≤ nu s p ∧ nu s p ≤ s.m
  vis : ∀ p, p < ls.length → nu s p ≠ 0 → p ∈ s.O ∨ nu s p = closedN
  srt : s.O.Pairwise fun a b => nu s a < nu s b
  cl : ∀ p r, p < ls.length → nu s p = closedN → Ed ls p r → nu s r = closedN
  bw : ∀ p r, p ∈ s.O → p ∉ G → Ed ls p r → nu s r ≠ 0
  up : ∀ x ∈ s.O, ∀ y ∈ s.O, nu s x ≤ nu s y → Re ls x y
  gr : ∀ y ∈ s.O, ∃ g, g ∈ G ∧ g ∈ s.O ∧ nu s g ≤ nu s y ∧ Re ls y g
  gs : ∀ g ∈ G, g ∈ s.O
  v1 : s.v = 0 ∨ ∃ p, p < ls.length ∧ nu s p = closedN ∧ Ring ls p ∧ s.v = tx ls p
  v2 : ∀ p, p < ls.length → nu s p = closedN → Ring ls p → tx ls p ≤ s.v
theorem WT.lt_closed {ls : List LK} {s : FSt} {G : List Nat} (h : WT ls s G) {p : Nat} (hp : p ∈ s.O) : nu s p < closedN ∧ nu s p ≠ 0 := by
  have := h.on_ p hp
  have := h.mm
  unfold closedN
  omega
/-- what a walk from p has done -/
structure PT (ls : List LK) (s : FSt) (p : Nat) (G : List Nat) (s' : FSt) (low : Nat) : Prop where
  wt : WT ls s' G
  keep : ∀ y, nu s y ≠ 0 → nu s' y = nu s y
  pv : nu s' p = closedN ∨ s.m + 1 ≤ nu s' p
  mle : s.m + 1 ≤ s'.m
  sub : ∃ S, s'.O = s.O ++ S ∧ (∀ x ∈ S, ∀ y ∈ s.O, Ed ls x y → low ≤ nu s y)
  lw : low = s.m + 1 ∨ (low ≤ s.m ∧ ∃ y, y ∈ s.O ∧ nu s y = low ∧ Re ls p y)
/-- in the midst of p's edges -/
structure LT_ (ls : List LK) (s : FSt) (p : Nat) (G : List Nat) (k : Nat) (x : FSt × Nat) : Prop where
  wt : WT ls x.1 (p :: G)
  keep : ∀ y, nu s y ≠ 0 → nu x.1 y = nu s y
  np : nu x.1 p = s.m + 1
  mle : s.m + 1 ≤ x.1.m
  sub : ∃ S, x.1.O = s.O ++ p :: S ∧ (∀ u ∈ S, ∀ y ∈ s.O, Ed ls u y → x.2 ≤ nu s y)
  lw : x.2 = s.m + 1 ∨ (x.2 ≤ s.m ∧ ∃ y, y ∈ s.O ∧ nu s y = x.2 ∧ Re ls p y)
  ed : ∀ k', k' < k → Via ls p k' → nu x.1 (lastsF ls k') ≠ 0 ∧ (lastsF ls k' ∈ s.O → x.2 ≤ nu s (lastsF ls k'))
theorem LT_.ge {ls : List LK} {s : FSt} {p : Nat} {G : List Nat} {k : Nat} {x : FSt × Nat} (h : LT_ ls s p G k x) {y : Nat} (hy : y ∈ x.1.O) : y ∈ s.O ∨ s.m + 1 ≤ nu x.1 y := by
  obtain ⟨S, hS, _⟩ := h.sub
  rw [hS] at hy
  rcases List.mem_append.1 hy with hy | hy
  · exact Or.inl hy
  · right
    rcases List.mem_cons.1 hy with rfl | hy
    · rw [h.np]; exact Nat.le_refl _
    · have hs := h.wt.srt
      rw [hS, List.pairwise_append, List.pairwise_cons] at hs
      have := hs.2.1.1 y hy
      rw [h.np] at this
      omega
theorem LT_.le {ls : List LK} {s : FSt} {p : Nat} {G : List Nat} {k : Nat} {x : FSt × Nat} (h : LT_ ls s p G k x) : x.2 ≤ s.m + 1 := by
  rcases h.lw with h | h <;> omega
/-- p is marked -/
theorem start_ok {ls : List LK} {s : FSt} {G : List Nat} (h : WT ls s G) {p : Nat} (hp : p < ls.length) (h0 : nu s p = 0) (hG : ∀ g ∈ G, Re ls g p) (hm : s.m < 16384) :
    LT_ ls s p G 0 (⟨s.N.set p (s.m + 1), s.O ++ [p], s.m + 1, s.v⟩, s.m + 1) := by
  have hpN : p < s.N.length := by rw [h.nl]; exact hp
  have hn : ∀ y, nu ⟨s.N.set p (s.m + 1), s.O ++ [p], s.m + 1, s.v⟩ y = if y = p then s.m + 1 else nu s y := fun y => nu_set hpN y
  have hpO : p ∉ s.O := fun hx => by have := (h.on_ p hx).2.1; omega
  have hO : ∀ y ∈ s.O, y ≠ p := fun y hy e => hpO (e ▸ hy)
  have hnO : ∀ y ∈ s.O, nu ⟨s.N.set p (s.m + 1), s.O ++ [p], s.m + 1, s.v⟩ y = nu s y := fun y hy => by rw [hn, if_neg (hO y hy)]
  have hnp : nu ⟨s.N.set p (s.m + 1), s.O ++ [p], s.m + 1, s.v⟩ p = s.m + 1 := by rw [hn, if_pos rfl]
  have hc : s.m + 1 ≠ closedN := by unfold closedN; omega
  have hpos : 0 < s.N.count 0 := by
    have hx : s.N[p] = 0 := by
      have := h0
      unfold nu at this
      rw [List.getD_eq_getElem?_getD, List.getElem?_eq_getElem hpN] at this
      exact this
    exact List.count_pos_iff.2 (hx ▸ List.getElem_mem hpN)
  have hreach : ∀ y ∈ s.O, Re ls y p := fun y hy => by
    obtain ⟨g, hg, _, _, hr⟩ := h.gr y hy
    exact hr.trans (hG g hg)
  refine ⟨⟨by rw [List.length_set]; exact h.nl, by show s.m + 1 ≤ _; omega, ?_, fun y hy => ?_, fun y hy hv => ?_, ?_, fun y r hy hcl he => ?_, fun y r hy hg he => ?_, fun x hx y hy hxy => ?_, fun y hy => ?_, fun g hg => ?_, ?_, fun y hy hcl hr => ?_⟩, fun y hy => ?_, hnp, Nat.le_refl _, ⟨[], rfl, fun u hu => by cases hu⟩, Or.inl rfl, fun k' hk' => absurd hk' (Nat.not_lt_zero _)⟩
  · show s.m + 1 + (s.N.set p (s.m + 1)).count 0 = ls.length
    have hx : s.N[p] = 0 := by
      have := h0
      unfold nu at this
      rw [List.getD_eq_getElem?_getD, List.getElem?_eq_getElem hpN] at this
      exact this
    rw [List.count_set hpN, hx]
    have := h.cnt
    simp
    omega
  · rcases List.mem_append.1 hy with hy | hy
    · have := h.on_ y hy
      rw [hnO y hy]
      exact ⟨this.1, this.2.1, by show _ ≤ s.m + 1; omega⟩
    · rw [List.mem_singleton.1 hy, hnp]
      exact ⟨hp, by omega, Nat.le_refl _⟩
  · rw [hn] at hv ⊢
    by_cases e : y = p
    · exact Or.inl (by rw [e]; simp)
    · rw [if_neg e] at hv ⊢
      exact (h.vis y hy hv).imp (fun hx => List.mem_append_left _ hx) id
  · rw [List.pairwise_append]
    refine ⟨h.srt.imp_of_mem fun ha hb hab => by rw [hnO _ ha, hnO _ hb]; exact hab, by simp, fun a ha b hb => ?_⟩
    rw [List.mem_singleton.1 hb, hnO a ha, hnp]
    have := h.on_ a ha
    omega
  · rw [hn] at hcl ⊢
    by_cases e : y = p
    · rw [if_pos e] at hcl; exact absurd hcl hc
    · rw [if_neg e] at hcl
      have := h.cl y r hy hcl he
      by_cases e' : r = p
      · rw [e', h0] at this; exact absurd this (by unfold closedN; omega)
      · rw [if_neg e']; exact this
  · rcases List.mem_append.1 hy with hy | hy
    · have := h.bw y r hy (fun hx => hg (List.mem_cons_of_mem _ hx)) he
      rw [hn]
      split
      · omega
      · exact this
    · exact absurd (List.mem_singleton.1 hy ▸ List.mem_cons_self) hg
  · rcases List.mem_append.1 hx with hx | hx
    · rcases List.mem_append.1 hy with hy | hy
      · rw [hnO x hx, hnO y hy] at hxy
        exact h.up x hx y hy hxy
      · rw [List.mem_singleton.1 hy]; exact hreach x hx
    · rcases List.mem_append.1 hy with hy | hy
      · rw [List.mem_singleton.1 hx, hnp, hnO y hy] at hxy
        have := h.on_ y hy
        omega
      · rw [List.mem_singleton.1 hx, List.mem_singleton.1 hy]; exact Re.refl p
  · rcases List.mem_append.1 hy with hy | hy
    · obtain ⟨g, hg, hgo, hle, hr⟩ := h.gr y hy
      exact ⟨g, List.mem_cons_of_mem _ hg, List.mem_append_left _ hgo, by rw [hnO g hgo, hnO y hy]; exact hle, hr⟩
    · rw [List.mem_singleton.1 hy]
      exact ⟨p, List.mem_cons_self, by simp, Nat.le_refl _, Re.refl p⟩
  · rcases List.mem_cons.1 hg with rfl | hg
    · simp
    · exact List.mem_append_left _ (h.gs g hg)
  · rcases h.v1 with hv | ⟨y, hy, hcl, hr, hv⟩
    · exact Or.inl hv
    · refine Or.inr ⟨y, hy, ?_, hr, hv⟩
      rw [hn, if_neg fun e => by rw [e, h0] at hcl; exact absurd hcl (by unfold closedN; omega)]
      exact hcl
  · rw [hn] at hcl
    by_cases e : y = p
    · rw [if_pos e] at hcl; exact absurd hcl hc
    · rw [if_neg e] at hcl
      exact h.v2 y hy hcl hr
  · show nu _ y = nu s y
    rw [hn, if_neg fun e => by rw [e] at hy; exact hy h0]
end Go.Proofs.YtlblgfpafdfilaaDoor
