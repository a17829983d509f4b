/-
STAGE 8: the document's Path. STAGE 8: along the leaves, as the document says it; leaves that lead round and round.
-/
import Derived.Test.YtcajidlekfkjlaaAD
namespace Go.Proofs.Ytcajidlekfkjlaa
open Go.RowKit

theorem PathP.wider {w W w' : World} {R : Except Int (List Nat)} {e : Ending} (hb : Below w.heap.size w W) (h : PathP W R e w') : PathP w R e w' := by
  obtain ⟨v, h1, h2, h3⟩ := h
  exact ⟨v, h1, h2.mono fun b _ hb' => Nat.le_trans hb.size hb', hb.trans (h3.mono hb.size)⟩
set_option maxHeartbeats 2000000 in
set_option maxRecDepth 100000 in
theorem rPath_any (t : TV) (n : Nat) (x : List Nat) (hx : x.length ≤ 1000000) (w : World) {S : Nat → Prop} (hn : n < 4294967296) (h : t.In w S) (hf : ∀ y ∈ t.l, Few y.p) :
    Calls Try.prog 10 #[t.agg, .int .u32 (n : Int), .string (strOf x)] w (PathP w (pathM (some t) x n)) := by
  have hIE := risEntry_any x (by omega)
  have HW := Lib.hid (fun (W : World) (hW : Below w.heap.size w W) => rway_any t n x W hn (h.below hW) hf)
  unfold TV.agg at HW ⊢
  clear h hf
  by_cases h0 : n = 0
  · subst h0
    have e : pathM (some t) x 0 = .error 1 := by unfold pathM; rw [if_neg (by simp)]
    rw [e]
    go_enter Try.func10, Try.ntmps10
    go_wp2_with fail
    go_ret2
    exact ⟨_, rfl, OwN.nil_ _ _, (Below.refl _ _).alloc (Nat.le_refl _) _⟩
  · have d1 : ((n : Int) == 0) = false := beq_false_of_ne (by omega)
    by_cases he : isE x = true
    · have e : pathM (some t) x n = wayN t x 8 n := by unfold pathM wayN; rw [if_pos ⟨h0, he⟩]
      rw [e]
      rw [he] at hIE
      have HIE := Lib.hid hIE
      obtain ⟨R, hR⟩ : ∃ R, R = wayN t x 8 n := ⟨_, rfl⟩
      rw [← hR] at HW ⊢
      clear h0 hIE e hR he
      go_enter Try.func10, Try.ntmps10
      go_wp2_with fail
      refine (HIE.out _).mono ?_
      rintro e w1 ⟨rfl, rfl⟩
      go_wp2_with fail
      refine (HW.out _ ((Below.refl _ _).alloc (Nat.le_refl _) _)).mono ?_
      rintro e w1 ⟨v, rfl, hv, hb⟩
      have HV := Lib.hid hv
      have HB := Lib.hid hb
      clear hv hb
      go_wp2_with fail
      go_ret2
      exact PathP.wider ((Below.refl _ _).alloc (Nat.le_refl _) _) ⟨v, rfl, HV.out, HB.out⟩
    · have e : pathM (some t) x n = .error 1 := by unfold pathM; rw [if_neg (fun h => he h.2)]
      have he' : isE x = false := by simpa using he
      rw [e]
      rw [he'] at hIE
      have HIE := Lib.hid hIE
      clear h0 hIE e he he'
      go_enter Try.func10, Try.ntmps10
      go_wp2_with fail
      refine (HIE.out _).mono ?_
      rintro e w1 ⟨rfl, rfl⟩
      go_wp2_with fail
      go_ret2
      exact ⟨_, rfl, OwN.nil_ _ _, (Below.refl _ _).alloc (Nat.le_refl _) _⟩
end Go.Proofs.Ytcajidlekfkjlaa
namespace Go.Proofs.Ytcajidlekfkjlaa
open Go.RowKit

theorem pigeon : ∀ (l : List Nat) (f : Nat → Nat) (N : Nat), (∀ i, i < N → f i ∈ l) → l.length < N → ∃ i j, i < j ∧ j < N ∧ f i = f j
  | [], f, N, h, hN => by
    have := h 0 (by simpa using hN)
    cases this
  | a :: r, f, N, h, hN => by
    by_cases hex : ∃ i0, i0 < N ∧ f i0 = a
    · obtain ⟨i0, hi0, ha⟩ := hex
      by_cases h2 : ∃ j, j < N ∧ j ≠ i0 ∧ f j = a
      · obtain ⟨j, hj, hne, hja⟩ := h2
        rcases Nat.lt_or_gt_of_ne hne with hlt | hlt
        · exact ⟨j, i0, hlt, hi0, by rw [hja, ha]⟩
        · exact ⟨i0, j, hlt, hj, by rw [hja, ha]⟩
      · obtain ⟨i, j, hij, hjN, he⟩ := pigeon r (fun i => f (if i < i0 then i else i + 1)) (N - 1) (fun i hi => by
          have hlt : (if i < i0 then i else i + 1) < N := by split <;> omega
          have hne : (if i < i0 then i else i + 1) ≠ i0 := by split <;> omega
          have := h _ hlt
          rcases List.mem_cons.1 this with e | e
          · exact absurd ⟨_, hlt, hne, e⟩ h2
          · exact e) (by simp at hN; omega)
        exact ⟨_, _, by show (if i < i0 then i else i + 1) < (if j < i0 then j else j + 1); split <;> split <;> omega, by show (if j < i0 then j else j + 1) < N; split <;> omega, he⟩
    · obtain ⟨i, j, hij, hjN, he⟩ := pigeon r f N (fun i hi => by
        rcases List.mem_cons.1 (h i hi) with e | e
        · exact absurd ⟨i, hi, e⟩ hex
        · exact e) (by simp at hN; omega)
      exact ⟨i, j, hij, hjN, he⟩
def iter (g : Nat → Nat) : Nat → Nat → Nat
  | 0, n => n
  | i + 1, n => iter g i (g n)
theorem iter_add (g : Nat → Nat) : ∀ (i j n : Nat), iter g (i + j) n = iter g j (iter g i n)
  | 0, j, n => by rw [Nat.zero_add]; rfl
  | i + 1, j, n => by rw [Nat.add_right_comm]; exact iter_add g i j (g n)
/-- what is good along a chain longer than the numbers there are is good for ever -/
theorem iter_good (g : Nat → Nat) (P : Nat → Prop) (l : List Nat) (hP : ∀ n, P n → n ∈ l) (n N : Nat) (h : ∀ i, i < N → P (iter g i n)) (hN : l.length < N) : P (iter g N n) := by
  obtain ⟨i, j, hij, hj, e⟩ := pigeon l (fun i => iter g i n) N (fun i hi => hP _ (h i hi)) hN
  have e' : iter g i n = iter g j n := e
  have h1 : iter g N n = iter g (N - j) (iter g j n) := by rw [← iter_add]; congr 1; omega
  have h2 : iter g (i + (N - j)) n = iter g (N - j) (iter g i n) := iter_add g i (N - j) n
  rw [h1, ← e', ← h2]
  exact h _ (by omega)
/-- the document: along the leaves -/
def rsk (t : TV) (x : List Nat) : Nat → Nat → Except Int (Nat × Nat)
  | f, n => if n = 0 then .error 6 else match askM (some t) n with
    | .error c => .error c
    | .ok p => if p.k ≠ 2 then .error 5 else match f with
      | 0 => .error 5
      | f + 1 => if placeN p x < p.n then .ok (n, placeN p x) else rsk t x f p.x
def pgX (t : TV) (n : Nat) : Nat := match askM (some t) n with | .ok p => p.x | .error _ => 0
def goodL (t : TV) (x : List Nat) (n : Nat) : Prop := n ≠ 0 ∧ ∃ p, askM (some t) n = .ok p ∧ p.k = 2 ∧ ¬ placeN p x < p.n ∧ p.x ≠ 0
theorem seekL_five {t : TV} {x : List Nat} : ∀ (f n : Nat) (p : PV), askM (some t) n = .ok p → (∀ i, i ≤ f → goodL t x (iter (pgX t) i n)) → seekL (some t) x f n p = .error 5
  | 0, n, p, hp, h => by
    obtain ⟨_, p', hp', hk, hpl, hx⟩ := h 0 (Nat.le_refl _)
    have e : p' = p := by have := hp'.symm.trans hp; injection this
    subst e
    unfold seekL
    rw [if_neg hpl, if_neg hx]
  | f + 1, n, p, hp, h => by
    obtain ⟨_, p', hp', hk, hpl, hx⟩ := h 0 (Nat.zero_le _)
    have e : p' = p := by have := hp'.symm.trans hp; injection this
    subst e
    have hnx : pgX t n = p'.x := by unfold pgX; rw [hp]
    obtain ⟨_, q, hq, hqk, _, _⟩ := h 1 (by omega)
    have hq' : askM (some t) p'.x = .ok q := by rw [← hnx]; exact hq
    have ih := seekL_five f p'.x q hq' (fun i hi => by
      have := h (i + 1) (by omega)
      rw [← hnx]
      exact this)
    unfold seekL
    rw [if_neg hpl, if_neg hx]
    simp only [hq', hqk, if_true]
    exact ih
theorem rsk_far {t : TV} {x : List Nat} : ∀ (f n : Nat), (∀ i, i < f → goodL t x (iter (pgX t) i n)) → rsk t x f n = rsk t x 0 (iter (pgX t) f n)
  | 0, n, _ => rfl
  | f + 1, n, h => by
    obtain ⟨h0, p, hp, hk, hpl, hx⟩ := h 0 (by omega)
    have h0' : n ≠ 0 := h0
    have hp' : askM (some t) n = .ok p := hp
    have hnx : pgX t n = p.x := by unfold pgX; rw [hp']
    have ih := rsk_far f (pgX t n) (fun i hi => h (i + 1) (by omega))
    conv => lhs; unfold rsk
    rw [if_neg h0', hp']
    simp only []
    rw [if_neg (by simpa using hk), if_neg hpl, ← hnx]
    exact ih
theorem seek_or {t : TV} {x : List Nat} : ∀ (f n : Nat) (p : PV), n ≠ 0 → askM (some t) n = .ok p → p.k = 2 → seekL (some t) x f n p = rsk t x (f + 1) n ∨ ∀ i, i ≤ f → goodL t x (iter (pgX t) i n)
  | 0, n, p, h0, hp, hk => by
    by_cases hpl : placeN p x < p.n
    · left
      unfold seekL rsk
      rw [if_pos hpl, if_neg h0, hp]
      simp only []
      rw [if_neg (by simpa using hk), if_pos hpl]
    · by_cases hx : p.x = 0
      · left
        unfold seekL rsk
        rw [if_neg hpl, if_pos hx, if_neg h0, hp]
        simp only []
        rw [if_neg (by simpa using hk), if_neg hpl]
        unfold rsk
        rw [if_pos hx]
      · right
        intro i hi
        obtain rfl : i = 0 := by omega
        exact ⟨h0, p, hp, hk, hpl, hx⟩
  | f + 1, n, p, h0, hp, hk => by
    have hr : rsk t x (f + 1 + 1) n = if placeN p x < p.n then .ok (n, placeN p x) else rsk t x (f + 1) p.x := by
      conv => lhs; unfold rsk
      rw [if_neg h0, hp]
      simp only []
      rw [if_neg (by simpa using hk)]
    have hnx : pgX t n = p.x := by unfold pgX; rw [hp]
    rw [hr]
    by_cases hpl : placeN p x < p.n
    · left
      unfold seekL
      rw [if_pos hpl, if_pos hpl]
    · by_cases hx : p.x = 0
      · left
        unfold seekL rsk
        rw [if_neg hpl, if_pos hx, if_neg hpl, if_pos hx]
      · rw [if_neg hpl]
        cases hq : askM (some t) p.x with
        | error c =>
          left
          unfold seekL rsk
          rw [if_neg hpl, if_neg hx, if_neg hx]
          simp only [hq]
        | ok q =>
          by_cases hqk : q.k = 2
          · rcases seek_or f p.x q hx hq hqk with ih | ih
            · left
              unfold seekL
              rw [if_neg hpl, if_neg hx]
              simp only [hq, hqk, if_true]
              exact ih
            · right
              intro i hi
              cases i with
              | zero => exact ⟨h0, p, hp, hk, hpl, hx⟩
              | succ i =>
                have := ih i (by omega)
                rw [← hnx] at this
                exact this
          · left
            unfold seekL rsk
            rw [if_neg hpl, if_neg hx, if_neg hx]
            simp only [hq]
            rw [if_neg hqk, if_pos hqk]
theorem good_in {t : TV} {x : List Nat} {n : Nat} (h : goodL t x n) : n ∈ nos t.l := by
  obtain ⟨h0, p, hp, _⟩ := h
  obtain ⟨t', e, _, hg, _⟩ := ask_ok_inv hp
  cases e
  unfold TV.get at hg
  split at hg
  · rename_i hh
    have := congrArg Prod.snd hg
    exact absurd this hh.1
  · split at hg
    · rename_i y hy
      have := List.find?_some hy
      have hm := List.mem_of_find?_eq_some hy
      simp at this
      exact List.mem_map.2 ⟨y, hm, this⟩
    · have := congrArg Prod.snd hg
      cases this
theorem seek_rsk {t : TV} {x : List Nat} {f n : Nat} {p : PV} (h0 : n ≠ 0) (hp : askM (some t) n = .ok p) (hk : p.k = 2) (hl : t.l.length < f + 1) : seekL (some t) x f n p = rsk t x (f + 1) n := by
  rcases seek_or (x := x) f n p h0 hp hk with h | h
  · exact h
  · have hg := iter_good (pgX t) (goodL t x) (nos t.l) (fun n hn => good_in hn) n (f + 1) (fun i hi => h i (by omega)) (by rw [nos, List.length_map]; exact hl)
    rw [seekL_five f n p hp h, rsk_far (f + 1) n (fun i hi => h i (by omega))]
    obtain ⟨hz, q, hq, hqk, _, _⟩ := hg
    unfold rsk
    rw [if_neg hz, hq]
    simp only []
    rw [if_neg (by simpa using hqk)]
/-- each page of the way was told -/
theorem wayM_told {G : Option TV} {x : List Nat} : ∀ (f n : Nat) (l : List IV), wayM G x f n = .ok l → ∀ i ∈ l, askM G i.t = .ok i.p
  | 0, _, _, h => by cases h
  | f + 1, n, l, h => by
    unfold wayM at h
    cases hA : askM G n with
    | error c => rw [hA] at h; cases h
    | ok p =>
      rw [hA] at h
      simp only [] at h
      split at h
      · injection h with h
        subst h
        intro i hi
        simp at hi
        subst hi
        exact hA
      · cases hw : wayM G x f (childM p x) with
        | error c => rw [hw] at h; cases h
        | ok r =>
          rw [hw] at h
          injection h with h
          subst h
          intro i hi
          rcases List.mem_cons.1 hi with rfl | hi
          · exact hA
          · exact wayM_told f _ r hw i hi
end Go.Proofs.Ytcajidlekfkjlaa
