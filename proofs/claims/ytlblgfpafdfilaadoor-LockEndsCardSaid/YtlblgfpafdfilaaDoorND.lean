/-
  STAGE 12: rings, as mathematics: a ring closed; all of it.
-/
import Derived.Test.YtlblgfpafdfilaaDoorNC
namespace Go.Proofs.YtlblgfpafdfilaaDoor
open Go.RowKit Go.Sort

theorem lastTo_t (ls : List LK) (t : Nat) : ∀ k i, i < k → (ls.getD i okz).t = t → (ls.getD (lastTo ls t k) okz).t = t
  | 0, i, hi, _ => absurd hi (Nat.not_lt_zero i)
  | k + 1, i, hi, h => by
    unfold lastTo
    by_cases e : (ls.getD k okz).t = t
    · rw [if_pos e]; exact e
    · rw [if_neg e]
      have hne : i ≠ k := fun e' => e (by rw [← e']; exact h)
      exact lastTo_t ls t k i (by omega) h
theorem lastsF_t {ls : List LK} {k : Nat} (hk : k < ls.length) : tx ls (lastsF ls k) = tx ls k := lastTo_t ls _ _ k hk rfl
/-- no edge joins a transaction to itself -/
theorem Ed.ne {ls : List LK} {p r : Nat} (h : Ed ls p r) : tx ls r ≠ tx ls p := by
  obtain ⟨k, hk, hv, rfl⟩ := h
  rw [lastsF_t hk]
  unfold Via waitM at hv
  simp only [Bool.and_eq_true] at hv
  have := hv.1.1.2
  simpa [tx] using this
theorem close_ok (ls : List LK) (many : Bool) : ∀ (Q : List Nat) (s : FSt), (∀ q ∈ Q, q < s.N.length) → (∀ q ∈ Q, nu s q ≠ 0) →
    (closeM ls many Q s).O = s.O ∧ (closeM ls many Q s).m = s.m ∧ (closeM ls many Q s).N.length = s.N.length ∧ (closeM ls many Q s).N.count 0 = s.N.count 0 ∧ (∀ y, nu (closeM ls many Q s) y = if y ∈ Q then closedN else nu s y) ∧
    s.v ≤ (closeM ls many Q s).v ∧ ((closeM ls many Q s).v = s.v ∨ (many = true ∧ ∃ q ∈ Q, (closeM ls many Q s).v = tx ls q)) ∧ (many = true → ∀ q ∈ Q, tx ls q ≤ (closeM ls many Q s).v)
  | [], s, _, _ => ⟨rfl, rfl, rfl, rfl, fun y => by simp [closeM], Nat.le_refl _, Or.inl rfl, fun _ q hq => by cases hq⟩
  | p :: r, s, hl, hz => by
    have hpl := hl p List.mem_cons_self
    have hpz := hz p List.mem_cons_self
    have hc0 : closedN ≠ 0 := by unfold closedN; omega
    have hn1 : ∀ y, nu { s with N := s.N.set p closedN, v := if many = true then max s.v (ls.getD p okz).t else s.v } y = if y = p then closedN else nu s y := fun y => nu_set hpl y
    obtain ⟨h1, h2, h3, h4, h5, h6, h7, h8⟩ := close_ok ls many r { s with N := s.N.set p closedN, v := if many = true then max s.v (ls.getD p okz).t else s.v } (fun q hq => by rw [List.length_set]; exact hl q (List.mem_cons_of_mem _ hq)) (fun q hq => by
      rw [hn1]
      split
      · exact hc0
      · exact hz q (List.mem_cons_of_mem _ hq))
    have e : closeM ls many (p :: r) s = closeM ls many r { s with N := s.N.set p closedN, v := if many = true then max s.v (ls.getD p okz).t else s.v } := rfl
    rw [e]
    have hcnt : (s.N.set p closedN).count 0 = s.N.count 0 := by
      have hx : s.N[p] ≠ 0 := by
        unfold nu at hpz
        rw [List.getD_eq_getElem?_getD, List.getElem?_eq_getElem hpl] at hpz
        exact hpz
      rw [List.count_set hpl]
      have e1 : (s.N[p] == 0) = false := by simpa using hx
      have e2 : (closedN == 0) = false := by simpa using hc0
      rw [e1, e2]
      simp
    refine ⟨h1, h2, h3.trans (List.length_set ..), h4.trans hcnt, fun y => ?_, ?_, ?_, fun hm q hq => ?_⟩
    · rw [h5, hn1]
      by_cases e1 : y ∈ r
      · rw [if_pos e1, if_pos (List.mem_cons_of_mem _ e1)]
      · rw [if_neg e1]
        by_cases e2 : y = p
        · rw [if_pos e2, if_pos (by rw [e2]; exact List.mem_cons_self)]
        · rw [if_neg e2, if_neg fun h => by rcases List.mem_cons.1 h with h | h; exact e2 h; exact e1 h]
    · refine Nat.le_trans ?_ h6
      show s.v ≤ if many = true then max s.v (ls.getD p okz).t else s.v
      split <;> omega
    · rcases h7 with h7 | ⟨hm, q, hq, h7⟩
      · cases many with
        | false => exact Or.inl h7
        | true =>
          have h7' : _ = max s.v (ls.getD p okz).t := h7
          rcases Nat.le_total s.v (ls.getD p okz).t with h | h
          · exact Or.inr ⟨rfl, p, List.mem_cons_self, h7'.trans (Nat.max_eq_right h)⟩
          · exact Or.inl (h7'.trans (Nat.max_eq_left h))
      · exact Or.inr ⟨hm, q, List.mem_cons_of_mem _ hq, h7⟩
    · rcases List.mem_cons.1 hq with rfl | hq
      · refine Nat.le_trans ?_ h6
        show tx ls q ≤ if many = true then max s.v (ls.getD q okz).t else s.v
        rw [if_pos hm]
        unfold tx
        omega
      · exact h8 hm q hq
theorem end_open {ls : List LK} {s : FSt} {p : Nat} {G : List Nat} {x : FSt × Nat} (hs : WT ls s G) (hp : p < ls.length) (hL : LT_ ls s p G ls.length x) (hlt : x.2 < s.m + 1) : PT ls s p G x.1 x.2 := by
  obtain ⟨S, hS, hex⟩ := hL.sub
  have hpe : ∀ r, Ed ls p r → nu x.1 r ≠ 0 ∧ (r ∈ s.O → x.2 ≤ nu s r) := fun r hr => by
    obtain ⟨k, hk, hv, rfl⟩ := hr
    exact hL.ed k hk hv
  have hpO : p ∈ x.1.O := by rw [hS]; simp
  have hsO : ∀ y ∈ s.O, y ∈ x.1.O := fun y hy => by rw [hS]; exact List.mem_append_left _ hy
  have hw := hL.wt
  rcases hL.lw with h | ⟨hle, y0, hy0, hn0, hr0⟩
  · omega
  refine ⟨⟨hw.nl, hw.mm, hw.cnt, hw.on_, hw.vis, hw.srt, hw.cl, fun y r hy hg he => ?_, hw.up, fun y hy => ?_, fun g hg => hw.gs g (List.mem_cons_of_mem _ hg), hw.v1, hw.v2⟩, hL.keep, Or.inr (by rw [hL.np]; exact Nat.le_refl _), hL.mle, ⟨p :: S, hS, fun u hu y hy he => ?_⟩, Or.inr ⟨hle, y0, hy0, hn0, hr0⟩⟩
  · by_cases e : y = p
    · rw [e] at he
      exact (hpe r he).1
    · exact hw.bw y r hy (fun h => by rcases List.mem_cons.1 h with h | h; exact e h; exact hg h) he
  · obtain ⟨g, hg, hgo, hgle, hgr⟩ := hw.gr y hy
    rcases List.mem_cons.1 hg with rfl | hg
    · obtain ⟨g0, hg0, hgo0, hgle0, hgr0⟩ := hw.gr y0 (hsO y0 hy0)
      have hn0' : nu x.1 y0 = nu s y0 := hL.keep y0 (hs.lt_closed hy0).2
      have hnp := hL.np
      rcases List.mem_cons.1 hg0 with rfl | hg0
      · omega
      · exact ⟨g0, hg0, hgo0, by omega, (hgr.trans hr0).trans hgr0⟩
    · exact ⟨g, hg, hgo, hgle, hgr⟩
  · rcases List.mem_cons.1 hu with rfl | hu
    · exact (hpe y he).2 hy
    · exact hex u hu y hy he
theorem end_close {ls : List LK} {s : FSt} {p : Nat} {G : List Nat} {x : FSt × Nat} (hs : WT ls s G) (hp : p < ls.length) (hL : LT_ ls s p G ls.length x) (hge : ¬ x.2 < s.m + 1) (S : List Nat) (hS : x.1.O = s.O ++ p :: S) (hex : ∀ u ∈ S, ∀ y ∈ s.O, Ed ls u y → x.2 ≤ nu s y) :
    PT ls s p G (closeM ls (decide (1 < (p :: S).length)) (p :: S) { x.1 with O := s.O }) (s.m + 1) := by
  have hpe : ∀ r, Ed ls p r → nu x.1 r ≠ 0 ∧ (r ∈ s.O → x.2 ≤ nu s r) := fun r hr => by
    obtain ⟨k, hk, hv, rfl⟩ := hr
    exact hL.ed k hk hv
  have hw := hL.wt
  obtain ⟨Q, hQ⟩ : ∃ Q, Q = p :: S := ⟨_, rfl⟩
  rw [← hQ] at hS ⊢
  have hpQ : p ∈ Q := by rw [hQ]; exact List.mem_cons_self
  have hQO : ∀ q ∈ Q, q ∈ x.1.O := fun q hq => by rw [hS]; exact List.mem_append_right _ hq
  have hsO : ∀ y ∈ s.O, y ∈ x.1.O := fun y hy => by rw [hS]; exact List.mem_append_left _ hy
  have hns : ∀ y ∈ s.O, nu x.1 y = nu s y := fun y hy => hL.keep y (hs.lt_closed hy).2
  have hnp := hL.np
  have hQn : ∀ q ∈ Q, s.m + 1 ≤ nu x.1 q := fun q hq => by
    rw [hQ] at hq
    rcases List.mem_cons.1 hq with rfl | hq
    · omega
    · have h := hw.srt
      rw [hS, hQ, List.pairwise_append, List.pairwise_cons] at h
      have := h.2.1.1 q hq
      omega
  have hdis : ∀ y ∈ s.O, y ∉ Q := fun y hy hq => by
    have h1 := hQn y hq
    have h2 := (hs.on_ y hy).2.2
    have h3 := hns y hy
    omega
  have hF1 : ∀ u ∈ Q, ∀ y, Ed ls u y → y ∉ s.O := fun u hu y he hy => by
    have h2 := (hs.on_ y hy).2.2
    rw [hQ] at hu
    rcases List.mem_cons.1 hu with rfl | hu
    · have := (hpe y he).2 hy; omega
    · have := hex u hu y hy he; omega
  have hGQ : ∀ g ∈ G, g ∉ Q := fun g hg => hdis g (hs.gs g hg)
  have hF2 : ∀ u ∈ Q, ∀ y, Ed ls u y → y ∈ Q ∨ nu x.1 y = closedN := fun u hu y he => by
    have hv : nu x.1 y ≠ 0 := by
      by_cases e : u = p
      · rw [e] at he; exact (hpe y he).1
      · exact hw.bw u y (hQO u hu) (fun h => by rcases List.mem_cons.1 h with h | h; exact e h; exact hGQ u h hu) he
    rcases hw.vis y he.lt hv with h | h
    · rw [hS] at h
      rcases List.mem_append.1 h with h | h
      · exact absurd h (hF1 u hu y he)
      · exact Or.inl h
    · exact Or.inr h
  have hF3 : ∀ a b, Re ls a b → (a ∈ Q ∨ (a < ls.length ∧ nu x.1 a = closedN)) → (b ∈ Q ∨ (b < ls.length ∧ nu x.1 b = closedN)) := fun a b hr => by
    induction hr with
    | refl => exact id
    | step he _ ih =>
      intro h
      apply ih
      rcases h with h | ⟨hlt, h⟩
      · exact (hF2 _ h _ he).imp id fun h => ⟨he.lt, h⟩
      · exact Or.inr ⟨he.lt, hw.cl _ _ hlt h he⟩
  have hF4 : ∀ a b, Re ls a b → a < ls.length → nu x.1 a = closedN → nu x.1 b = closedN := fun a b hr => by
    induction hr with
    | refl => exact fun _ h => h
    | step he _ ih => exact fun hlt h => ih he.lt (hw.cl _ _ hlt h he)
  have hop : ∀ y ∈ x.1.O, nu x.1 y ≠ closedN := fun y hy => by have := (hw.lt_closed hy).1; omega
  have hup : ∀ u ∈ Q, Re ls u p := fun u hu => by
    obtain ⟨g, hg, hgo, _, hgr⟩ := hw.gr u (hQO u hu)
    rcases List.mem_cons.1 hg with rfl | hg
    · exact hgr
    · rcases hF3 u g hgr (Or.inl hu) with h | ⟨_, h⟩
      · exact absurd h (hGQ g hg)
      · exact absurd h (hop g hgo)
  have hdown : ∀ u ∈ Q, Re ls p u := fun u hu => hw.up p (hQO p hpQ) u (hQO u hu) (by rw [hnp]; exact hQn u hu)
  have hring : 1 < Q.length → ∀ q ∈ Q, Ring ls q := fun hlen q hq => by
    have hnd : ∃ u ∈ Q, u ≠ q := by
      rw [hQ] at hlen hq ⊢
      match S, hlen with
      | u2 :: r2, _ =>
        by_cases e : p = q
        · refine ⟨u2, by simp, fun e2 => ?_⟩
          have h := hw.srt
          rw [hS, hQ, List.pairwise_append, List.pairwise_cons] at h
          have := h.2.1.1 u2 List.mem_cons_self
          rw [e, e2] at this
          omega
        · exact ⟨p, by simp, e⟩
    obtain ⟨u, hu, hne⟩ := hnd
    have h1 := (hup q hq).trans (hdown u hu)
    cases h1 with
    | refl => exact absurd rfl hne
    | step he hr => exact ⟨_, he, (hr.trans (hup u hu)).trans (hdown q hq)⟩
  have hxl : ∀ q ∈ Q, q < x.1.N.length := fun q hq => by rw [hw.nl]; exact (hw.on_ q (hQO q hq)).1
  obtain ⟨c1, c2, c3, c4, c5, c6, c7, c8⟩ := close_ok ls (decide (1 < Q.length)) Q { x.1 with O := s.O } hxl (fun q hq => (hw.lt_closed (hQO q hq)).2)
  have hn' : ∀ y, nu { x.1 with O := s.O } y = nu x.1 y := fun y => rfl
  simp only [hn'] at c5
  generalize closeM ls (decide (1 < Q.length)) Q { x.1 with O := s.O } = s' at c1 c2 c3 c4 c5 c6 c7 c8 ⊢
  have hno : ∀ y ∈ s.O, nu s' y = nu s y := fun y hy => by rw [c5, if_neg (hdis y hy), hns y hy]
  have hcc : ∀ y, nu x.1 y = closedN → nu s' y = closedN := fun y h => by rw [c5]; split; rfl; exact h
  have hc0 : closedN ≠ 0 := by unfold closedN; omega
  refine ⟨⟨c3.trans hw.nl, by rw [c2]; exact hw.mm, by rw [c2, c4]; exact hw.cnt, fun y hy => ?_, fun y hy hv => ?_, ?_, fun a r ha hcl he => ?_, fun y r hy hg he => ?_, fun a ha b hb hab => ?_, fun y hy => ?_, fun g hg => by rw [c1]; exact hs.gs g hg, ?_, fun a ha hcl hr => ?_⟩, fun y hy => ?_, Or.inl (by rw [c5, if_pos hpQ]), by rw [c2]; exact hL.mle, ⟨[], by rw [c1]; simp, fun u hu => by cases hu⟩, Or.inl rfl⟩
  · rw [c1] at hy
    have := hs.on_ y hy
    have h2 := hL.mle
    rw [hno y hy, c2]
    exact ⟨this.1, this.2.1, by show _ ≤ x.1.m; omega⟩
  · rw [c1]
    rw [c5] at hv ⊢
    by_cases e : y ∈ Q
    · exact Or.inr (by rw [if_pos e])
    · rw [if_neg e] at hv ⊢
      rcases hw.vis y hy hv with h | h
      · rw [hS] at h
        rcases List.mem_append.1 h with h | h
        · exact Or.inl h
        · exact absurd h e
      · exact Or.inr h
  · rw [c1]
    exact hs.srt.imp_of_mem fun ha hb hab => by rw [hno _ ha, hno _ hb]; exact hab
  · rw [c5] at hcl
    by_cases e : a ∈ Q
    · rcases hF2 a e r he with h | h
      · rw [c5, if_pos h]
      · exact hcc r h
    · rw [if_neg e] at hcl
      exact hcc r (hw.cl a r ha hcl he)
  · rw [c1] at hy
    have := hw.bw y r (hsO y hy) (fun h => by rcases List.mem_cons.1 h with h | h; exact hdis y hy (h ▸ hpQ); exact hg h) he
    rw [c5]
    split
    · exact hc0
    · exact this
  · rw [c1] at ha hb
    rw [hno a ha, hno b hb] at hab
    exact hs.up a ha b hb hab
  · rw [c1] at hy
    obtain ⟨g, hg, hgo, hle, hr⟩ := hs.gr y hy
    exact ⟨g, hg, by rw [c1]; exact hgo, by rw [hno g hgo, hno y hy]; exact hle, hr⟩
  · rcases c7 with h | ⟨hm, q, hq, h⟩
    · rcases hw.v1 with hv | ⟨y, hy, hcl, hr, hv⟩
      · exact Or.inl (h.trans hv)
      · exact Or.inr ⟨y, hy, hcc y hcl, hr, h.trans hv⟩
    · exact Or.inr ⟨q, (hw.on_ q (hQO q hq)).1, by rw [c5, if_pos hq], hring (of_decide_eq_true hm) q hq, h⟩
  · rw [c5] at hcl
    by_cases e : a ∈ Q
    · by_cases hm : 1 < Q.length
      · exact c8 (decide_eq_true hm) a e
      · exfalso
        have hS0 : S = [] := by
          rw [hQ, List.length_cons] at hm
          exact List.length_eq_zero_iff.1 (by omega)
        rw [hQ, hS0, List.mem_singleton] at e
        rw [e] at hr
        obtain ⟨b, he, hre⟩ := hr
        rcases hF2 p hpQ b he with h | h
        · rw [hQ, hS0, List.mem_singleton] at h
          rw [h] at he
          exact he.ne rfl
        · exact hop p (hQO p hpQ) (hF4 b p hre he.lt h)
    · rw [if_neg e] at hcl
      exact Nat.le_trans (hw.v2 a ha hcl hr) c6
  · have h1 := hL.keep y hy
    rw [c5]
    by_cases e : y ∈ Q
    · exfalso
      rcases hs.vis y (hw.on_ y (hQO y e)).1 hy with h | h
      · exact hdis y h e
      · exact hop y (hQO y e) (h1.trans h)
    · rw [if_neg e]; exact h1
end Go.Proofs.YtlblgfpafdfilaaDoor
