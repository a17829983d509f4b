/-
  THE MATHEMATICS OF READING A PAGE OF ITS BYTES.
-/
import Derived.Test.YtajmpoanmdgmpaaPU
namespace Go.Proofs.Ytajmpoanmdgmpaa

theorem fixB_unfix : ∀ l : List Nat, (∀ x ∈ l, x < 256) → Cd.fixB l.length (Cd.unfix l) = l
  | [], _ => rfl
  | x :: l, h => by
    have ih := fixB_unfix l fun y hy => h y (by simp [hy])
    have hx := h x (by simp)
    simp only [List.length_cons, Cd.fixB, Cd.unfix]
    rw [show (x + 256 * Cd.unfix l) % 256 = x by omega, show (x + 256 * Cd.unfix l) / 256 = Cd.unfix l by omega, ih]
theorem takeO_ok {ok : Bool} {l : List Nat} {k : Nat} (h : okO ok (takeO l k) = true) : ok = true ∧ k ≤ l.length ∧ valO ok (takeO l k) [] = l.take k ∧ leftO ok l (takeO l k) = l.drop k := by
  cases ok with
  | false => simp [okO] at h
  | true =>
    by_cases h3 : (0 : Int) ≤ (k : Int) ∧ (k : Int) ≤ l.length
    · have h4 : takeO l (k : Int) = some (l.take k, k) := takeO_yes (by omega)
      rw [h4]
      exact ⟨rfl, by omega, rfl, rfl⟩
    · rw [takeO_no h3] at h
      simp [okO] at h
theorem fixO_okk {ok : Bool} {l : List Nat} {k : Nat} (hl : ∀ x ∈ l, x < 256) (h : okO ok (fixO l k) = true) : ok = true ∧ k ≤ l.length ∧ Cd.fixB k (valO ok (fixO l k) 0) = l.take k ∧ leftO ok l (fixO l k) = l.drop k := by
  rw [fixO_ok] at h
  obtain ⟨h1, h2, h3, h4⟩ := takeO_ok h
  rw [fixO_val, fixO_left, h3, h4]
  refine ⟨h1, h2, ?_, rfl⟩
  have h5 := fixB_unfix (l.take k) fun x hx => hl x (List.mem_of_mem_take hx)
  rw [List.length_take, Nat.min_eq_left h2] at h5
  exact h5
theorem takeO_put (a l : List Nat) (k : Nat) (hk : a.length = k) : takeO (a ++ l) (k : Int) = some (a, k) := by
  rw [takeO_yes (by simp; omega)]
  rw [List.take_left' hk]
theorem fixO_put (k x : Nat) (l : List Nat) (hx : x < 256 ^ k) : fixO (Cd.fixB k x ++ l) k = some (x, k) := by
  unfold fixO
  rw [takeO_put _ _ _ (Cd.fixB_len k x)]
  simp [Cd.unfix_fixB, Nat.mod_eq_of_lt hx]
theorem left_put (a l : List Nat) (k : Nat) {α : Type} (y : α) (hk : a.length = k) : leftO true (a ++ l) (some (y, k)) = l := by
  show (a ++ l).drop k = l
  rw [List.drop_left' hk]
theorem rcell_ok {ok : Bool} {l : List Nat} (hl : ∀ x ∈ l, x < 256) (h : (rcell ok l).ok = true) : ok = true ∧ l = cellB (rcell ok l).c ++ (rcell ok l).l := by
  unfold rcell at h ⊢
  simp only at h ⊢
  by_cases h0 : valO ok (fixO l 2) 0 = 0
  · rw [if_pos h0] at h ⊢
    simp only at h ⊢
    obtain ⟨h1, h2, h3, h4⟩ := fixO_okk hl h
    rw [h0] at h3
    rw [h4]
    refine ⟨h1, ?_⟩
    show l = cellB ⟨false, 0, []⟩ ++ l.drop 2
    unfold cellB
    simp only [List.length_nil, Bool.false_eq_true, if_false, List.append_nil]
    rw [h3, List.take_append_drop]
  · rw [if_neg h0] at h ⊢
    simp only at h ⊢
    obtain ⟨n, hn⟩ : ∃ n, n = valO ok (fixO l 2) 0 := ⟨_, rfl⟩
    rw [← hn] at h ⊢
    obtain ⟨k2, h2, h3, h4⟩ := takeO_ok h
    have hl1 : ∀ x ∈ leftO ok l (fixO l 2), x < 256 := fun x hx => by
      unfold leftO at hx
      split at hx
      · exact hl x (List.mem_of_mem_drop hx)
      · exact hl x hx
    obtain ⟨k1, g2, g3, g4⟩ := fixO_okk hl1 k2
    obtain ⟨k0, f2, f3, f4⟩ := fixO_okk hl k1
    refine ⟨k0, ?_⟩
    rw [h3, h4]
    unfold cellB
    simp only [if_true]
    rw [g4] at h2 ⊢
    rw [g3]
    rw [f4] at h2 ⊢
    have hd : (((l.drop 2).drop 4).take n).length = n := by rw [List.length_take]; omega
    rw [hd, hn, f3, ← hn, List.append_assoc, List.append_assoc, List.take_append_drop, List.take_append_drop, List.take_append_drop]
theorem rcell_lt {ok : Bool} {l : List Nat} (hl : ∀ x ∈ l, x < 256) : ∀ x ∈ (rcell ok l).l, x < 256 := by
  have key : ∀ {α : Type} (ok : Bool) (l : List Nat) (o : Option (α × Nat)), (∀ x ∈ l, x < 256) → ∀ x ∈ leftO ok l o, x < 256 := by
    intro α ok l o hl x hx
    unfold leftO at hx
    split at hx
    · exact hl x (List.mem_of_mem_drop hx)
    · exact hl x hx
  unfold rcell
  simp only
  split
  · exact key _ _ _ hl
  · exact key _ _ _ (key _ _ _ (key _ _ _ hl))
theorem rcell_put (c : CE) (hc : cmay c = true) (hk : c.k < 4294967296) (l : List Nat) : rcell true (cellB c ++ l) = ⟨c, true, l⟩ := by
  obtain ⟨u, k, d⟩ := c
  unfold cmay at hc
  simp only at hc hk
  cases u with
  | false =>
    simp at hc
    obtain ⟨h1, h2⟩ := hc
    subst h1
    subst h2
    unfold rcell cellB
    simp only [List.length_nil, Bool.false_eq_true, if_false, List.append_nil]
    rw [fixO_put 2 0 l (by decide)]
    rw [left_put _ _ _ _ (Cd.fixB_len 2 0)]
    rfl
  | true =>
    simp at hc
    have h65 : d.length < 256 ^ 2 := by have : (256 : Nat) ^ 2 = 65536 := by decide
                                        omega
    have h32 : k < 256 ^ 4 := by have : (256 : Nat) ^ 4 = 4294967296 := by decide
                                 omega
    unfold rcell cellB
    simp only [if_true, List.append_assoc]
    rw [fixO_put 2 d.length _ h65]
    rw [left_put _ _ _ _ (Cd.fixB_len 2 _)]
    rw [show valO true (some (d.length, 2)) 0 = d.length from rfl, if_neg (by omega)]
    rw [fixO_put 4 k _ h32]
    rw [show okO true (some (d.length, 2)) = true from rfl]
    rw [left_put _ _ _ _ (Cd.fixB_len 4 _)]
    rw [show okO true (some (k, 4)) = true from rfl]
    rw [takeO_put d l _ rfl]
    rw [left_put _ _ _ _ rfl]
    rfl
theorem rcs_off (l : List Nat) : ∀ k, (rcs false l k).2.1 = false
  | 0 => rfl
  | k + 1 => by
    have ih := rcs_off l k
    show (rcell (rcs false l k).2.1 (rcs false l k).2.2).ok = false
    rw [ih]
    rw [Bool.eq_false_iff]
    unfold rcell
    simp only
    split <;> simp [okO]
theorem rcell_bad {ok : Bool} {l : List Nat} (h : ok = false) : (rcell ok l).ok = false := by
  subst h
  rw [Bool.eq_false_iff]
  unfold rcell
  simp only
  split <;> simp [okO]
theorem rcs_bad (ok : Bool) (l : List Nat) (j : Nat) (h : (rcs ok l j).2.1 = false) : ∀ k, j ≤ k → (rcs ok l k).2.1 = false
  | 0, hk => by obtain rfl : j = 0 := by omega
                exact h
  | k + 1, hk => by
    by_cases h1 : j = k + 1
    · rw [← h1]; exact h
    · exact rcell_bad (rcs_bad ok l j h k (by omega))
theorem rcs_lt {ok : Bool} {l : List Nat} (hl : ∀ x ∈ l, x < 256) : ∀ k, ∀ x ∈ (rcs ok l k).2.2, x < 256
  | 0 => hl
  | k + 1 => rcell_lt (rcs_lt hl k)
theorem rcs_ok {ok : Bool} {l : List Nat} (hl : ∀ x ∈ l, x < 256) : ∀ k, (rcs ok l k).2.1 = true → ok = true ∧ l = cellsB (rcs ok l k).1 ++ (rcs ok l k).2.2
  | 0, h => ⟨h, by simp [rcs, cellsB]⟩
  | k + 1, h => by
    obtain ⟨h1, h2⟩ := rcell_ok (rcs_lt hl k) h
    obtain ⟨h3, h4⟩ := rcs_ok hl k h1
    refine ⟨h3, ?_⟩
    show l = cellsB ((rcs ok l k).1 ++ [(rcell (rcs ok l k).2.1 (rcs ok l k).2.2).c]) ++ (rcell (rcs ok l k).2.1 (rcs ok l k).2.2).l
    unfold cellsB at h4 ⊢
    rw [List.map_append, List.flatten_append, List.append_assoc]
    simp only [List.map_cons, List.map_nil, List.flatten_cons, List.flatten_nil, List.append_nil]
    rw [← h2]
    exact h4
theorem rcs_put (es : List CE) (hc : es.all cmay = true) (hk : ∀ c ∈ es, c.k < 4294967296) (l : List Nat) : ∀ k, k ≤ es.length → rcs true (cellsB es ++ l) k = (es.take k, true, cellsB (es.drop k) ++ l)
  | 0, _ => by simp [rcs]
  | k + 1, h => by
    have ih := rcs_put es hc hk l k (by omega)
    unfold rcs
    rw [ih]
    simp only
    have hd : es.drop k = es[k] :: es.drop (k + 1) := by rw [List.drop_eq_getElem_cons (by omega)]
    rw [hd]
    have hm : es[k] ∈ es := List.getElem_mem _
    have hb : cellsB (es[k] :: es.drop (k + 1)) ++ l = cellB es[k] ++ (cellsB (es.drop (k + 1)) ++ l) := by
      unfold cellsB
      rw [List.map_cons, List.flatten_cons, List.append_assoc]
    rw [hb, rcell_put _ (List.all_eq_true.1 hc _ hm) (hk _ hm)]
    simp only
    rw [List.take_succ_eq_append_getElem (by omega)]
theorem left_lt {α : Type} (ok : Bool) (l : List Nat) (o : Option (α × Nat)) (hl : ∀ x ∈ l, x < 256) : ∀ x ∈ leftO ok l o, x < 256 := by
  intro x hx
  unfold leftO at hx
  split at hx
  · exact hl x (List.mem_of_mem_drop hx)
  · exact hl x hx
theorem rpage_len (ok : Bool) (l : List Nat) : (rpage ok l).es.length = (rpage ok l).n := by
  unfold rpage
  exact rcs_len _ _ _
theorem rpage_ok {ok : Bool} {l : List Nat} (hl : ∀ x ∈ l, x < 256) (h : (rpage ok l).ok = true) : ok = true ∧ l = headB (rpage ok l).k (rpage ok l).es.length (rpage ok l).s (rpage ok l).x ++ cellsB (rpage ok l).es ++ (rpage ok l).l := by
  rw [rpage_len]
  unfold rpage at h ⊢
  simp only at h ⊢
  have hl1 := left_lt ok l (fixO l 1) hl
  have hl2 := left_lt (okO ok (fixO l 1)) _ (fixO (leftO ok l (fixO l 1)) 1) hl1
  have hl3 := left_lt (okO (okO ok (fixO l 1)) (fixO (leftO ok l (fixO l 1)) 1)) _ (fixO (leftO (okO ok (fixO l 1)) (leftO ok l (fixO l 1)) (fixO (leftO ok l (fixO l 1)) 1)) 8) hl2
  have hl4 := left_lt (okO (okO (okO ok (fixO l 1)) (fixO (leftO ok l (fixO l 1)) 1)) (fixO (leftO (okO ok (fixO l 1)) (leftO ok l (fixO l 1)) (fixO (leftO ok l (fixO l 1)) 1)) 8)) _ (fixO (leftO (okO (okO ok (fixO l 1)) (fixO (leftO ok l (fixO l 1)) 1)) (leftO (okO ok (fixO l 1)) (leftO ok l (fixO l 1)) (fixO (leftO ok l (fixO l 1)) 1)) (fixO (leftO (okO ok (fixO l 1)) (leftO ok l (fixO l 1)) (fixO (leftO ok l (fixO l 1)) 1)) 8)) 4) hl3
  obtain ⟨a4, b4⟩ := rcs_ok hl4 _ h
  obtain ⟨a3, _, c3, d3⟩ := fixO_okk hl3 a4
  obtain ⟨a2, _, c2, d2⟩ := fixO_okk hl2 a3
  obtain ⟨a1, _, c1, d1⟩ := fixO_okk hl1 a2
  obtain ⟨a0, _, c0, d0⟩ := fixO_okk hl a1
  refine ⟨a0, ?_⟩
  unfold headB
  rw [c0, c1, c2, c3, List.append_assoc _ (cellsB _), ← b4, d3, List.append_assoc, List.take_append_drop, d2, List.append_assoc, List.take_append_drop, d1, List.append_assoc, List.take_append_drop, d0, List.take_append_drop]
theorem rpage_put (k s x : Nat) (es : List CE) (hk : k < 256) (hn : es.length < 256) (hs : s < 18446744073709551616) (hx : x < 4294967296) (hc : es.all cmay = true) (hkk : ∀ c ∈ es, c.k < 4294967296) (l : List Nat) :
    rpage true (headB k es.length s x ++ cellsB es ++ l) = ⟨k, s, x, es.length, es, true, l⟩ := by
  unfold rpage headB
  simp only [List.append_assoc]
  rw [fixO_put 1 k _ (by omega), left_put _ _ _ _ (Cd.fixB_len 1 _)]
  rw [show okO true (some (k, 1)) = true from rfl]
  rw [fixO_put 1 es.length _ (by omega), left_put _ _ _ _ (Cd.fixB_len 1 _)]
  rw [show okO true (some (es.length, 1)) = true from rfl]
  rw [fixO_put 8 s _ (by have : (256 : Nat) ^ 8 = 18446744073709551616 := by decide
                         omega), left_put _ _ _ _ (Cd.fixB_len 8 _)]
  rw [show okO true (some (s, 8)) = true from rfl]
  rw [fixO_put 4 x _ (by have : (256 : Nat) ^ 4 = 4294967296 := by decide
                         omega), left_put _ _ _ _ (Cd.fixB_len 4 _)]
  rw [show okO true (some (x, 4)) = true from rfl]
  rw [show valO true (some (es.length, 1)) 0 = es.length from rfl]
  rw [rcs_put es hc hkk l es.length (Nat.le_refl _)]
  simp [valO, cellsB]
/-- are these bytes a page's? -/
def decOK (b : List Nat) : Bool :=
  decide (b.length = 512) && (decide (Cd.unfix (b.take 4) = Crc.more 0 (b.drop 4)) && ((rpage true (b.drop 4)).ok && (decide (∀ j, j < (rpage true (b.drop 4)).l.length → (rpage true (b.drop 4)).l.getD j 0 = 0) && may ((rpage true (b.drop 4)).k : Int) (rpage true (b.drop 4)).es)))
theorem noughts_iff (l : List Nat) : (∀ j, j < l.length → l.getD j 0 = 0) ↔ l = List.replicate l.length 0 := by
  constructor
  · intro h
    refine List.ext_getElem (by simp) fun j h1 h2 => ?_
    have := h j h1
    simp [List.getD, List.getElem?_eq_getElem h1] at this
    simp [this]
  · intro h j hj
    rw [h]
    simp [List.getD, hj]
theorem may_fit {k : Int} {l : List CE} (h : may k l = true) : l.all cmay = true ∧ psz l ≤ 512 ∧ l.length ≤ 60 := by
  unfold may at h
  simp only [Bool.and_eq_true, decide_eq_true_eq] at h
  exact ⟨h.2.1, h.2.2.1, h.1⟩
/-- what the program finds is what the document finds: the bytes of what was read are these -/
theorem dec_enc (b : List Nat) (hb : ∀ x ∈ b, x < 256) (hl : b.length = 512) :
    decOK b = ((rpage true (b.drop 4)).ok && (may ((rpage true (b.drop 4)).k : Int) (rpage true (b.drop 4)).es && decide (encB (rpage true (b.drop 4)).k (rpage true (b.drop 4)).s (rpage true (b.drop 4)).x (rpage true (b.drop 4)).es = b))) := by
  rw [Bool.eq_iff_iff]
  unfold decOK
  simp only [Bool.and_eq_true, decide_eq_true_eq]
  have hdl : ∀ x ∈ b.drop 4, x < 256 := fun x hx => hb x (List.mem_of_mem_drop hx)
  have htl : ∀ x ∈ b.take 4, x < 256 := fun x hx => hb x (List.mem_of_mem_take hx)
  have ht4 : (b.take 4).length = 4 := by rw [List.length_take]; omega
  have hd508 : (b.drop 4).length = 508 := by rw [List.length_drop]; omega
  have hfix := fixB_unfix (b.take 4) htl
  rw [ht4] at hfix
  generalize hr : rpage true (b.drop 4) = r
  have hlen : r.ok = true → b.drop 4 = headB r.k r.es.length r.s r.x ++ cellsB r.es ++ r.l := by
    intro hok
    rw [← hr] at hok
    have := (rpage_ok hdl hok).2
    rw [hr] at this
    exact this
  constructor
  · rintro ⟨_, hcrc, hok, hno, hmay⟩
    refine ⟨hok, hmay, ?_⟩
    have h1 := hlen hok
    have h2 := (noughts_iff r.l).1 hno
    have hL : (headB r.k r.es.length r.s r.x ++ cellsB r.es).length + r.l.length = 508 := by rw [← hd508, h1, List.length_append (bs := r.l)]
    have hbody : bodyB r.k r.s r.x r.es = b.drop 4 := by
      unfold bodyB
      rw [h1]
      congr 1
      rw [show 508 - (headB r.k r.es.length r.s r.x ++ cellsB r.es).length = r.l.length by omega, ← h2]
    unfold encB
    rw [hbody, ← hcrc, hfix, List.take_append_drop]
  · rintro ⟨hok, hmay, henc⟩
    have h1 := hlen hok
    obtain ⟨hc, hz, hn⟩ := may_fit hmay
    have hbl : (bodyB r.k r.s r.x r.es).length = 508 := bodyB_len hc hz
    have e1 : b.take 4 = Cd.fixB 4 (Crc.more 0 (bodyB r.k r.s r.x r.es)) := by
      rw [← henc]
      unfold encB
      rw [List.take_left' (Cd.fixB_len 4 _)]
    have e2 : b.drop 4 = bodyB r.k r.s r.x r.es := by
      rw [← henc]
      unfold encB
      rw [List.drop_left' (Cd.fixB_len 4 _)]
    have hL : (headB r.k r.es.length r.s r.x ++ cellsB r.es).length + r.l.length = 508 := by rw [← hd508, h1, List.length_append (bs := r.l)]
    refine ⟨hl, ?_, hok, ?_, hmay⟩
    · rw [e1, Cd.unfix_fixB, e2, Nat.mod_eq_of_lt]
      have := Crc.more_lt (s := 0) (l := bodyB r.k r.s r.x r.es) (by omega) (by rw [← e2]; exact hdl)
      have h9 : (256 : Nat) ^ 4 = 4294967296 := by decide
      omega
    · rw [noughts_iff]
      rw [e2] at h1
      unfold bodyB at h1
      rw [show 508 - (headB r.k r.es.length r.s r.x ++ cellsB r.es).length = r.l.length by omega] at h1
      exact (List.append_cancel_left h1).symm
/-- a page's bytes are read as the page -/
theorem enc_dec (k s x : Nat) (es : List CE) (hmay : may (k : Int) es = true) (hk : k < 256) (hs : s < 18446744073709551616) (hx : x < 4294967296) (hkk : ∀ c ∈ es, c.k < 4294967296) (hd : ∀ c ∈ es, ∀ y ∈ c.d, y < 256) :
    decOK (encB k s x es) = true ∧ (rpage true ((encB k s x es).drop 4)).k = k ∧ (rpage true ((encB k s x es).drop 4)).s = s ∧ (rpage true ((encB k s x es).drop 4)).x = x ∧ (rpage true ((encB k s x es).drop 4)).es = es := by
  obtain ⟨hc, hz, hn⟩ := may_fit hmay
  have e2 : (encB k s x es).drop 4 = bodyB k s x es := by
    unfold encB
    rw [List.drop_left' (Cd.fixB_len 4 _)]
  have e1 : (encB k s x es).take 4 = Cd.fixB 4 (Crc.more 0 (bodyB k s x es)) := by
    unfold encB
    rw [List.take_left' (Cd.fixB_len 4 _)]
  have hrp : rpage true (bodyB k s x es) = ⟨k, s, x, es.length, es, true, List.replicate (508 - (headB k es.length s x ++ cellsB es).length) 0⟩ := by
    unfold bodyB
    exact rpage_put k s x es hk (by omega) hs hx hc hkk _
  have hblt : ∀ y ∈ bodyB k s x es, y < 256 := by
    intro y hy
    unfold bodyB headB cellsB at hy
    simp only [List.mem_append, List.mem_flatten, List.mem_map] at hy
    rcases hy with ((((hy | hy) | hy) | hy) | ⟨_, ⟨c, hcm, rfl⟩, hy⟩) | hy
    · exact Cd.fixB_lt _ _ y hy
    · exact Cd.fixB_lt _ _ y hy
    · exact Cd.fixB_lt _ _ y hy
    · exact Cd.fixB_lt _ _ y hy
    · unfold cellB at hy
      rcases List.mem_append.1 hy with hy | hy
      · exact Cd.fixB_lt _ _ y hy
      · split at hy
        · rcases List.mem_append.1 hy with hy | hy
          · exact Cd.fixB_lt _ _ y hy
          · exact hd c hcm y hy
        · simp at hy
    · have := List.eq_of_mem_replicate hy
      omega
  rw [e2, hrp]
  refine ⟨?_, rfl, rfl, rfl, rfl⟩
  unfold decOK
  rw [e2, hrp, e1]
  simp only [Bool.and_eq_true, decide_eq_true_eq, true_and]
  refine ⟨encB_len hc hz, ?_, ?_, hmay⟩
  · rw [Cd.unfix_fixB, Nat.mod_eq_of_lt]
    have := Crc.more_lt (s := 0) (l := bodyB k s x es) (by omega) hblt
    have h9 : (256 : Nat) ^ 4 = 4294967296 := by decide
    omega
  · intro j hj
    rw [List.length_replicate] at hj
    simp only [List.getD, List.getElem?_replicate, if_pos hj]
    rfl
theorem encB_lt (k s x : Nat) (es : List CE) (hd : ∀ c ∈ es, ∀ y ∈ c.d, y < 256) : ∀ y ∈ encB k s x es, y < 256 := by
  intro y hy
  unfold encB bodyB headB cellsB at hy
  simp only [List.mem_append, List.mem_flatten, List.mem_map] at hy
  rcases hy with hy | (((((hy | hy) | hy) | hy) | ⟨_, ⟨c, hcm, rfl⟩, hy⟩) | hy)
  · exact Cd.fixB_lt _ _ y hy
  · exact Cd.fixB_lt _ _ y hy
  · exact Cd.fixB_lt _ _ y hy
  · exact Cd.fixB_lt _ _ y hy
  · exact Cd.fixB_lt _ _ y hy
  · unfold cellB at hy
    rcases List.mem_append.1 hy with hy | hy
    · exact Cd.fixB_lt _ _ y hy
    · split at hy
      · rcases List.mem_append.1 hy with hy | hy
        · exact Cd.fixB_lt _ _ y hy
        · exact hd c hcm y hy
      · simp at hy
  · have := List.eq_of_mem_replicate hy
    omega
/-- one byte changed: no page's -/
theorem byt_ne {r x y : Nat} (hr : r < 4294967296) (hx : x < 256) (hy : y < 256) (h : x ≠ y) : Crc.byt r x ≠ Crc.byt r y := by
  intro e
  have h1 := Crc.stpN_inj 8 (Crc.xor_lt hr (by omega)) (Crc.xor_lt hr (by omega)) e
  exact h (Crc.xor_right_inj h1)
theorem crc_inj : ∀ (l : List Nat) {a b : Nat}, a < 4294967296 → b < 4294967296 → (∀ x ∈ l, x < 256) → Crc.crc a l = Crc.crc b l → a = b
  | [], _, _, _, _, _, h => h
  | x :: l, a, b, ha, hb, hl, h => by
    have hx := hl x (by simp)
    have h1 := crc_inj l (Crc.byt_lt ha hx) (Crc.byt_lt hb hx) (fun y hy => hl y (by simp [hy])) h
    have h2 := Crc.stpN_inj 8 (Crc.xor_lt ha (by omega)) (Crc.xor_lt hb (by omega)) h1
    exact Crc.xor_left_inj h2
theorem more_ne (a c : List Nat) (x y : Nat) (ha : ∀ z ∈ a, z < 256) (hc : ∀ z ∈ c, z < 256) (hx : x < 256) (hy : y < 256) (h : x ≠ y) : Crc.more 0 (a ++ x :: c) ≠ Crc.more 0 (a ++ y :: c) := by
  intro e
  unfold Crc.more at e
  have e1 := Crc.xor_left_inj e
  rw [Crc.crc_append, Crc.crc_append] at e1
  have hr : Crc.crc (0 ^^^ 4294967295) a < 4294967296 := Crc.crc_lt (by decide) ha
  have e2 := crc_inj c (Crc.byt_lt hr hx) (Crc.byt_lt hr hy) hc e1
  exact byt_ne hr hx hy h e2
end Go.Proofs.Ytajmpoanmdgmpaa
