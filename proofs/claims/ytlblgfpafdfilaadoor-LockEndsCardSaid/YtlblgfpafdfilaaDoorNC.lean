/-
  STAGE 12: rings, as mathematics: one edge more; all of them.
-/
import Derived.Test.YtlblgfpafdfilaaDoorNB
namespace Go.Proofs.YtlblgfpafdfilaaDoor
open Go.RowKit Go.Sort

theorem lastTo_lt (ls : List LK) (t : Nat) : ∀ k i, i < k → (ls.getD i okz).t = t → lastTo ls t k < k
  | 0, i, hi, _ => absurd hi (Nat.not_lt_zero i)
  | k + 1, i, hi, h => by
    unfold lastTo
    by_cases e : (ls.getD k okz).t = t
    · rw [if_pos e]; omega
    · rw [if_neg e]
      have hne : i ≠ k := fun e' => e (by rw [← e']; exact h)
      have := lastTo_lt ls t k i (by omega) h
      omega
theorem lastsF_lt {ls : List LK} {k : Nat} (hk : k < ls.length) : lastsF ls k < ls.length := lastTo_lt ls _ _ k hk rfl
theorem Ed.lt {ls : List LK} {p r : Nat} (h : Ed ls p r) : r < ls.length := by
  obtain ⟨k, hk, _, rfl⟩ := h
  exact lastsF_lt hk
/-- what the walk over closer places promises -/
def Goes (ls : List LK) (f : Nat) (G : List Nat) (go : Nat → FSt → Option (FSt × Nat)) : Prop :=
  ∀ r s, WT ls s G → r < ls.length → nu s r = 0 → (∀ g ∈ G, Re ls g r) → s.N.count 0 ≤ f → ∃ s' low, go r s = some (s', low) ∧ PT ls s r G s' low
theorem step_ok {ls : List LK} {s : FSt} {p : Nat} {G : List Nat} {k f : Nat} {x : FSt × Nat} {go : Nat → FSt → Option (FSt × Nat)} (hs : WT ls s G) (hp : p < ls.length) (hk : k < ls.length) (hG : ∀ g ∈ G, Re ls g p)
    (hL : LT_ ls s p G k x) (hgo : Goes ls f (p :: G) go) (hc : x.1.N.count 0 ≤ f) : ∃ x', stepM go ls (ls.getD p okz) p k x = some x' ∧ LT_ ls s p G (k + 1) x' ∧ x'.1.N.count 0 ≤ f := by
  unfold stepM
  by_cases hv : Via ls p k
  · have hv' := hv
    unfold Via at hv'
    rw [if_pos hv']
    have hed : Ed ls p (lastsF ls k) := ⟨k, hk, hv, rfl⟩
    have hr := lastsF_lt hk
    generalize hrr : lastsF ls k = r at hed hr
    by_cases h0 : x.1.N.getD r 0 = 0
    · rw [if_pos h0]
      have hGr : ∀ g ∈ p :: G, Re ls g r := fun g hg => by
        rcases List.mem_cons.1 hg with rfl | hg
        · exact Re.one hed
        · exact (hG g hg).trans (Re.one hed)
      obtain ⟨s', low, hgo', hP⟩ := hgo r x.1 hL.wt hr h0 hGr hc
      rw [hgo']
      refine ⟨_, rfl, ?_, ?_⟩
      · have hle := hL.le
        obtain ⟨S, hS, hex⟩ := hL.sub
        obtain ⟨S2, hS2, hex2⟩ := hP.sub
        have hsO : ∀ y ∈ s.O, nu x.1 y = nu s y := fun y hy => hL.keep y (hs.lt_closed hy).2
        have hnr : s.m + 1 ≤ nu s' r := by
          rcases hP.pv with h | h
          · rw [h]; have := hs.mm; unfold closedN; omega
          · have := hL.mle; omega
        have hrO : r ∉ s.O := fun hr' => by
          have := hsO r hr'
          have h1 := (hs.lt_closed hr').2
          unfold nu at this h1
          rw [h0] at this
          exact h1 this.symm
        have hlow2 : low ≤ s.m → ∃ y, y ∈ s.O ∧ nu s y = low ∧ Re ls p y := fun hlo => by
          rcases hP.lw with h | ⟨_, y, hy, hny, hre⟩
          · have := hL.mle; omega
          · rcases hL.ge hy with hy' | hy'
            · exact ⟨y, hy', by rw [← hny, hsO y hy'], (Re.one hed).trans hre⟩
            · omega
        show LT_ ls s p G (k + 1) (s', min (min x.2 low) (nu s' r))
        refine ⟨hP.wt, fun y hy => ?_, ?_, ?_, ⟨S ++ S2, ?_, fun u hu y hy he => ?_⟩, ?_, fun k' hk' hv2 => ?_⟩
        · have h1 := hL.keep y hy
          rw [hP.keep y (by rw [h1]; exact hy), h1]
        · rw [hP.keep p (by rw [hL.np]; omega), hL.np]
        · have := hP.mle; have := hL.mle
          show s.m + 1 ≤ s'.m
          omega
        · rw [hS2, hS]; simp
        · rcases List.mem_append.1 hu with hu | hu
          · have := hex u hu y hy he
            omega
          · have := hex2 u hu y (by rw [hS]; exact List.mem_append_left _ hy) he
            rw [hsO y hy] at this
            omega
        · show min (min x.2 low) (nu s' r) = s.m + 1 ∨ (min (min x.2 low) (nu s' r) ≤ s.m ∧ ∃ y, y ∈ s.O ∧ nu s y = min (min x.2 low) (nu s' r) ∧ Re ls p y)
          by_cases hm : min x.2 low = s.m + 1
          · left; omega
          · right
            have e : min (min x.2 low) (nu s' r) = min x.2 low := by omega
            rw [e]
            refine ⟨by omega, ?_⟩
            rcases Nat.le_total x.2 low with h | h
            · rw [Nat.min_eq_left h]
              rcases hL.lw with h' | ⟨_, h'⟩
              · omega
              · exact h'
            · rw [Nat.min_eq_right h]
              exact hlow2 (by omega)
        · rcases Nat.lt_or_ge k' k with h | h
          · obtain ⟨h1, h2⟩ := hL.ed k' h hv2
            refine ⟨by show nu s' _ ≠ 0; rw [hP.keep _ h1]; exact h1, fun hin => ?_⟩
            have := h2 hin
            show min (min x.2 low) (nu s' r) ≤ _
            omega
          · obtain rfl : k' = k := by omega
            rw [hrr]
            exact ⟨by show nu s' r ≠ 0; omega, fun hin => absurd hin hrO⟩
      · have h1 := hP.wt.cnt
        have h2 := hL.wt.cnt
        have h3 := hP.mle
        show s'.N.count 0 ≤ f
        omega
    · rw [if_neg h0]
      refine ⟨_, rfl, ?_, hc⟩
      have hle := hL.le
      have hsO : ∀ y ∈ s.O, nu x.1 y = nu s y := fun y hy => hL.keep y (hs.lt_closed hy).2
      obtain ⟨S, hS, hex⟩ := hL.sub
      show LT_ ls s p G (k + 1) (x.1, min x.2 (nu x.1 r))
      refine ⟨hL.wt, hL.keep, hL.np, hL.mle, ⟨S, hS, fun u hu y hy he => ?_⟩, ?_, fun k' hk' hv2 => ?_⟩
      · have := hex u hu y hy he
        show min x.2 (nu x.1 r) ≤ _
        omega
      · show min x.2 (nu x.1 r) = s.m + 1 ∨ (min x.2 (nu x.1 r) ≤ s.m ∧ ∃ y, y ∈ s.O ∧ nu s y = min x.2 (nu x.1 r) ∧ Re ls p y)
        rcases Nat.le_total x.2 (nu x.1 r) with h | h
        · rw [Nat.min_eq_left h]; exact hL.lw
        · rw [Nat.min_eq_right h]
          by_cases hm : nu x.1 r = s.m + 1
          · exact Or.inl hm
          · right
            refine ⟨by omega, r, ?_, ?_, Re.one hed⟩
            · rcases hL.wt.vis r hr h0 with h' | h'
              · rcases hL.ge h' with h' | h'
                · exact h'
                · omega
              · have := hs.mm; unfold closedN at h'; omega
            · rcases hL.wt.vis r hr h0 with h' | h'
              · rcases hL.ge h' with h' | h'
                · exact (hsO r h').symm
                · omega
              · have := hs.mm; unfold closedN at h'; omega
      · rcases Nat.lt_or_ge k' k with h | h
        · obtain ⟨h1, h2⟩ := hL.ed k' h hv2
          refine ⟨h1, fun hin => ?_⟩
          have := h2 hin
          show min x.2 (nu x.1 r) ≤ _
          omega
        · obtain rfl : k' = k := by omega
          rw [hrr]
          refine ⟨h0, fun hin => ?_⟩
          have := hsO r hin
          show min x.2 (nu x.1 r) ≤ _
          omega
  · have hv' := hv
    unfold Via at hv'
    rw [if_neg hv']
    refine ⟨x, rfl, ⟨hL.wt, hL.keep, hL.np, hL.mle, hL.sub, hL.lw, fun k' hk' hv2 => ?_⟩, hc⟩
    rcases Nat.lt_or_ge k' k with h | h
    · exact hL.ed k' h hv2
    · obtain rfl : k' = k := by omega
      exact absurd hv2 hv
theorem loop_ok {ls : List LK} {s : FSt} {p : Nat} {G : List Nat} {f : Nat} {x : FSt × Nat} {go : Nat → FSt → Option (FSt × Nat)} (hs : WT ls s G) (hp : p < ls.length) (hG : ∀ g ∈ G, Re ls g p)
    (hL : LT_ ls s p G 0 x) (hgo : Goes ls f (p :: G) go) (hc : x.1.N.count 0 ≤ f) : ∀ k, k ≤ ls.length → ∃ x', loopM go ls (ls.getD p okz) p x k = some x' ∧ LT_ ls s p G k x' ∧ x'.1.N.count 0 ≤ f
  | 0, _ => ⟨x, rfl, hL, hc⟩
  | k + 1, hk => by
    obtain ⟨x1, h1, hL1, hc1⟩ := loop_ok hs hp hG hL hgo hc k (by omega)
    obtain ⟨x2, h2, hL2, hc2⟩ := step_ok hs hp (by omega) hG hL1 hgo hc1
    refine ⟨x2, ?_, hL2, hc2⟩
    unfold loopM
    rw [h1]
    exact h2
end Go.Proofs.YtlblgfpafdfilaaDoor
