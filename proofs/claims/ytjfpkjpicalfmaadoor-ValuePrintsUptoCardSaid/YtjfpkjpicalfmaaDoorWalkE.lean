/-
  THE WALKS OF the document's Order and fit; of Compare, the program's and the document's.
-/
import Derived.Test.YtjfpkjpicalfmaaDoorWalkD
namespace Go.Proofs.YtjfpkjpicalfmaaDoor
open Go.RowKit Go.Sort
attribute [local go_sem high] run_eq23 run_neq23 run_eq9

theorem may_null {k n : Int} {s : ByteArray} (h : may k n s = true) : veq k n s 0 0 ⟨#[]⟩ = (k == 0) := by
  by_cases hk : k = 0
  · subst hk
    simp [may] at h
    simp [veq, h.1, h.2]
  · have : (k == 0) = false := by simpa using hk
    rw [this]
    simp [veq, hk]
theorem may_s {k n : Int} {s : ByteArray} (h : may k n s = true) (hk : k ≠ 2) : s = ⟨#[]⟩ := by
  have hb := may_kind h
  have : k = 0 ∨ k = 1 ∨ k = 3 := by omega
  rcases this with rfl | rfl | rfl
  · simp [may, seq_eq] at h; exact h.2
  · simp [may, seq_eq] at h; exact h
  · simp [may, seq_eq] at h; exact h.1
theorem may_n {k n : Int} {s : ByteArray} (h : may k n s = true) (hk : k = 2) : n = 0 := by
  subst hk
  simp [may] at h
  exact h.1

theorem below_drewN {B : Nat} {a w : World} (h : Below B a w) (n : Nat) : Below B a (w.drewN n) := ⟨h.os, h.tape, h.output, h.size, h.block⟩
/-- two boxes, and draws -/
theorem below_two (w : World) (o p : Obj) (n : Nat) : Below w.heap.size w (((w.alloc o).alloc p).drewN n) := below_drewN ((((Below.refl _ _).alloc (Nat.le_refl _) _).alloc (by simp) _)) n

theorem rorder_any (a b : V) (ha : a.may = true) (hb : b.may = true) (hsa : a.s.size ≤ 9223372036854775807) (hsb : b.s.size ≤ 9223372036854775807) (w : World) :
    Calls Tryd.prog 47 #[.agg #[.int .i64 a.k, .int .i64 a.n, .string a.s], .agg #[.int .i64 b.k, .int .i64 b.n, .string b.s]] w fun e w' => e = .returned (.int .i64 (ord a b)) ∧ Below w.heap.size w w' := by
  obtain ⟨k, n, s⟩ := a
  obtain ⟨k', n', s'⟩ := b
  have ha : may k n s = true := ha
  have hb : may k' n' s' = true := hb
  have hka := may_kind ha
  have hkb := may_kind hb
  simp only at hsa hsb ⊢
  have HC1 := Lib.hid (rplace_any k hka)
  have HC2 := Lib.hid (rplace_any k' hkb)
  have ho : ord ⟨k, n, s⟩ ⟨k', n', s'⟩ = firstOf (Lib.compareInt (place k) (place k')) (Lib.compareInt n n') (cmpS s s') := rfl
  have HO := Lib.hid ho
  clear ho
  rcases Int.lt_trichotomy (place k) (place k') with hp | hp | hp
  · have hr : ord ⟨k, n, s⟩ ⟨k', n', s'⟩ = -1 := by rw [HO.out]; simp [firstOf, Lib.compareInt, hp]
    have d1 : decide (place k < place k') = true := decide_eq_true hp
    rw [hr]
    clear hr ha hb hka hkb hp
    go_enter Tryd.func47, Tryd.ntmps47
    go_wp2_with fail
    go_quiet (first | (go_at_call_of 87 (Value.int IntKind.i64 k); exact Calls.quiet_of_same (HC1.out _)) | (go_at_call_of 87 (Value.int IntKind.i64 k'); exact Calls.quiet_of_same (HC2.out _)))
    go_wp2
    go_ret
    exact ⟨rfl, below_two _ _ _ _⟩
  · obtain rfl : k = k' := place_inj hka hkb hp
    have hr : ord ⟨k, n, s⟩ ⟨k, n', s'⟩ = if Lib.compareInt n n' = 0 then cmpS s s' else Lib.compareInt n n' := by rw [HO.out]; simp [firstOf, (cmpI_zero _ _).2 rfl]
    clear hp
    have d1 : decide (place k < place k) = false := by simp
    by_cases hk : k = 2
    · have e1 := may_n ha hk
      have e2 := may_n hb hk
      subst e1 e2
      rw [hr]
      simp only [(cmpI_zero (0 : Int) 0).2 rfl, if_true]
      have ek : (k == 2) = true := by simpa using hk
      clear hr ha hb hka hkb HC2 hk HO
      have HC := Lib.hid (bytes_any s s' hsa hsb)
      go_enter Tryd.func47, Tryd.ntmps47
      go_wp2_with fail
      go_quiet ((go_at_call 87; exact Calls.quiet_of_same (HC1.out _)))
      go_wp2_with fail
      refine (HC.out _).mono ?_
      rintro e w2 ⟨rfl, hb⟩
      go_wp2
      go_ret
      exact ⟨rfl, below_trans (below_two _ _ _ _) hb⟩
    · have e1 := may_s ha hk
      have e2 := may_s hb hk
      have hr2 : ord ⟨k, n, s⟩ ⟨k, n', s'⟩ = if n < n' then -1 else if n > n' then 1 else 0 := by
        rw [hr, e1, e2, (cmpS_zero _ _).2 rfl]
        unfold Lib.compareInt
        split
        · simp
        · split <;> simp
      rw [hr2]
      have ek : (k == 2) = false := by simpa using hk
      clear hr ha hb hka hkb HC2 hk HO hr2 e1 e2
      by_cases l1 : n < n'
      · rw [if_pos l1]
        have d2 : decide (n < n') = true := decide_eq_true l1
        clear l1
        go_enter Tryd.func47, Tryd.ntmps47
        go_wp2_with fail
        go_quiet ((go_at_call 87; exact Calls.quiet_of_same (HC1.out _)))
        go_wp2
        go_ret
        exact ⟨rfl, below_two _ _ _ _⟩
      · rw [if_neg l1]
        have d2 : decide (n < n') = false := decide_eq_false l1
        clear l1
        by_cases l2 : n > n'
        · rw [if_pos l2]
          have d3 : decide (n > n') = true := decide_eq_true l2
          clear l2
          go_enter Tryd.func47, Tryd.ntmps47
          go_wp2_with fail
          go_quiet ((go_at_call 87; exact Calls.quiet_of_same (HC1.out _)))
          go_wp2
          go_ret
          exact ⟨rfl, below_two _ _ _ _⟩
        · rw [if_neg l2]
          have d3 : decide (n > n') = false := decide_eq_false l2
          clear l2
          go_enter Tryd.func47, Tryd.ntmps47
          go_wp2_with fail
          go_quiet ((go_at_call 87; exact Calls.quiet_of_same (HC1.out _)))
          go_wp2
          go_ret
          exact ⟨rfl, below_two _ _ _ _⟩
  · have hr : ord ⟨k, n, s⟩ ⟨k', n', s'⟩ = 1 := by
      rw [HO.out]
      have h1 : ¬ place k < place k' := by omega
      simp [firstOf, Lib.compareInt, h1, hp]
    have d1 : decide (place k < place k') = false := decide_eq_false (by omega)
    have d2 : decide (place k > place k') = true := decide_eq_true hp
    rw [hr]
    clear hr ha hb hka hkb hp
    go_enter Tryd.func47, Tryd.ntmps47
    go_wp2_with fail
    go_quiet (first | (go_at_call_of 87 (Value.int IntKind.i64 k); exact Calls.quiet_of_same (HC1.out _)) | (go_at_call_of 87 (Value.int IntKind.i64 k'); exact Calls.quiet_of_same (HC2.out _)))
    go_wp2
    go_ret
    exact ⟨rfl, below_two _ _ _ _⟩

theorem fits_eq {v : V} (kind : Int) (h : v.may = true) : fits kind v = (v.k == kind || v.k == 0) := by
  unfold fits V.isNull
  rw [may_null h]
set_option maxHeartbeats 1000000 in
theorem rfit_any (kind : Int) (a b : V) (hsa : a.s.size ≤ 9223372036854775807) (hsb : b.s.size ≤ 9223372036854775807) (w : World) :
    Calls Tryd.prog 62 #[.int .i64 kind, .agg #[.int .i64 a.k, .int .i64 a.n, .string a.s], .agg #[.int .i64 b.k, .int .i64 b.n, .string b.s]] w fun e w' => e = .returned (.int .i64 (want kind [a, b])) ∧ Below w.heap.size w w' := by
  have hw : want kind [a, b] = if a.may && b.may then (if fits kind a && fits kind b then 0 else 30) else 5 := by simp [want]
  have hfa := fits_eq (v := a) kind
  have hfb := fits_eq (v := b) kind
  have HW := Lib.hid hw
  have HFA := Lib.hid hfa
  have HFB := Lib.hid hfb
  clear hw hfa hfb
  have HC1 := Lib.hid (rmay_any a.k a.n a.s hsa)
  have HC2 := Lib.hid (rmay_any b.k b.n b.s hsb)
  have ema : V.may a = may a.k a.n a.s := rfl
  have emb : V.may b = may b.k b.n b.s := rfl
  rw [ema] at HW HFA
  rw [emb] at HW HFB
  clear ema emb
  obtain ⟨k, n, s⟩ := a
  obtain ⟨k', n', s'⟩ := b
  simp only at HW HFA HFB HC1 HC2 hsa hsb ⊢
  go_enter Tryd.func62, Tryd.ntmps62
  go_wp2_with fail
  refine (HC1.out _).mono ?_
  rintro e w1 ⟨rfl, hb1⟩
  cases hma : may k n s
  · have HR : Hid (want kind [⟨k, n, s⟩, ⟨k', n', s'⟩] = 5) := by
      show want kind [⟨k, n, s⟩, ⟨k', n', s'⟩] = 5
      rw [HW.out, hma]; rfl
    have HB := Lib.hid (below_trans (below_two w _ _ 0) hb1)
    clear hb1 hma
    go_wp2
    go_ret
    exact ⟨by rw [HR.out]; rfl, HB.out⟩
  · have HB := Lib.hid (below_trans (below_two w _ _ 0) hb1)
    have hz1 : w.heap.size + 1 < w1.heap.size := by have := hb1.size; simp at this; omega
    have bx1 := ((Box.new w k n s).alloc (.cells #[.int .i64 k', .int .i64 n', .string s'] 23)).up hb1
    have bx2 := (Box.new (w.alloc (.cells #[.int .i64 k, .int .i64 n, .string s] 23)) k' n' s').up hb1
    obtain ⟨c0, c1, c2⟩ := bx1
    obtain ⟨d0, d1, d2⟩ := bx2
    rw [World.size_alloc] at d0 d1 d2
    have HMA := Lib.hid hma
    clear hb1 hma
    go_wp2_with fail
    refine (HC2.out _).mono ?_
    rintro e w2 ⟨rfl, hb2⟩
    cases hmb : may k' n' s'
    · have HR : Hid (want kind [⟨k, n, s⟩, ⟨k', n', s'⟩] = 5) := by
        show want kind [⟨k, n, s⟩, ⟨k', n', s'⟩] = 5
        rw [HW.out, HMA.out, hmb]; rfl
      have HB2 := Lib.hid (below_trans HB.out hb2)
      clear hb2 hmb
      go_wp2
      go_ret
      exact ⟨by rw [HR.out]; rfl, HB2.out⟩
    · have HB2 := Lib.hid (below_trans HB.out hb2)
      have e0 := (hb2.cell (p := ⟨w.heap.size, 0, none⟩) (by simp; omega)).trans c0
      have e1 := (hb2.cell (p := ⟨w.heap.size + 1, 0, none⟩) (by simp; omega)).trans d0
      have hr : want kind [⟨k, n, s⟩, ⟨k', n', s'⟩] = if (k == kind || k == 0) && (k' == kind || k' == 0) then 0 else 30 := by
        rw [HW.out, HMA.out, hmb, HFA.out HMA.out, HFB.out hmb]
        rfl
      have HR := Lib.hid hr
      clear hr hb2 hmb c0 c1 c2 d0 d1 d2 HFA HFB HW HC1 HC2 hsa hsb
      by_cases p1 : k = kind
      · have q1 : (k != kind) = false := by simpa using p1
        have r1 : (k == kind) = true := by simpa using p1
        by_cases p2 : k' = kind
        · have q2 : (k' != kind) = false := by simpa using p2
          have r2 : (k' == kind) = true := by simpa using p2
          have HX : Hid (want kind [⟨k, n, s⟩, ⟨k', n', s'⟩] = 0) := by show want kind [⟨k, n, s⟩, ⟨k', n', s'⟩] = 0; rw [HR.out, r1, r2]; rfl
          clear p1 p2 r1 r2
          go_wp2
          go_ret
          exact ⟨by rw [HX.out]; rfl, HB2.out⟩
        · have q2 : (k' != kind) = true := by simpa using p2
          have r2 : (k' == kind) = false := by simpa using p2
          by_cases p3 : k' = 0
          · have q3 : (k' != 0) = false := by simpa using p3
            have r3 : (k' == 0) = true := by simpa using p3
            have HX : Hid (want kind [⟨k, n, s⟩, ⟨k', n', s'⟩] = 0) := by show want kind [⟨k, n, s⟩, ⟨k', n', s'⟩] = 0; rw [HR.out, r1, r2, r3]; rfl
            clear p1 p2 r1 r2 p3 r3
            go_wp2
            go_ret
            exact ⟨by rw [HX.out]; rfl, HB2.out⟩
          · have q3 : (k' != 0) = true := by simpa using p3
            have r3 : (k' == 0) = false := by simpa using p3
            have HX : Hid (want kind [⟨k, n, s⟩, ⟨k', n', s'⟩] = 30) := by show want kind [⟨k, n, s⟩, ⟨k', n', s'⟩] = 30; rw [HR.out, r1, r2, r3]; rfl
            clear p1 p2 r1 r2 p3 r3
            go_wp2
            go_ret
            exact ⟨by rw [HX.out]; rfl, HB2.out⟩
      · have q1 : (k != kind) = true := by simpa using p1
        have r1 : (k == kind) = false := by simpa using p1
        by_cases p0 : k = 0
        · have q0 : (k != 0) = false := by simpa using p0
          have r0 : (k == 0) = true := by simpa using p0
          by_cases p2 : k' = kind
          · have q2 : (k' != kind) = false := by simpa using p2
            have r2 : (k' == kind) = true := by simpa using p2
            have HX : Hid (want kind [⟨k, n, s⟩, ⟨k', n', s'⟩] = 0) := by show want kind [⟨k, n, s⟩, ⟨k', n', s'⟩] = 0; rw [HR.out, r1, r2, r0]; rfl
            clear p1 p2 r1 r2 p0 r0
            go_wp2
            go_ret
            exact ⟨by rw [HX.out]; rfl, HB2.out⟩
          · have q2 : (k' != kind) = true := by simpa using p2
            have r2 : (k' == kind) = false := by simpa using p2
            by_cases p3 : k' = 0
            · have q3 : (k' != 0) = false := by simpa using p3
              have r3 : (k' == 0) = true := by simpa using p3
              have HX : Hid (want kind [⟨k, n, s⟩, ⟨k', n', s'⟩] = 0) := by show want kind [⟨k, n, s⟩, ⟨k', n', s'⟩] = 0; rw [HR.out, r1, r2, r3, r0]; rfl
              clear p1 p2 r1 r2 p3 r3 p0 r0
              go_wp2
              go_ret
              exact ⟨by rw [HX.out]; rfl, HB2.out⟩
            · have q3 : (k' != 0) = true := by simpa using p3
              have r3 : (k' == 0) = false := by simpa using p3
              have HX : Hid (want kind [⟨k, n, s⟩, ⟨k', n', s'⟩] = 30) := by show want kind [⟨k, n, s⟩, ⟨k', n', s'⟩] = 30; rw [HR.out, r1, r2, r3, r0]; rfl
              clear p1 p2 r1 r2 p3 r3 p0 r0
              go_wp2
              go_ret
              exact ⟨by rw [HX.out]; rfl, HB2.out⟩
        · have q0 : (k != 0) = true := by simpa using p0
          have r0 : (k == 0) = false := by simpa using p0
          have HX : Hid (want kind [⟨k, n, s⟩, ⟨k', n', s'⟩] = 30) := by show want kind [⟨k, n, s⟩, ⟨k', n', s'⟩] = 30; rw [HR.out, r1, r0]; rfl
          clear p1 r1 p0 r0
          go_wp2
          go_ret
          exact ⟨by rw [HX.out]; rfl, HB2.out⟩
end Go.Proofs.YtjfpkjpicalfmaaDoor
