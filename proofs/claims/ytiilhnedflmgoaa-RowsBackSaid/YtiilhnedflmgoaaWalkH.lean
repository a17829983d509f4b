/-
  THE WALKS OF fitsOne, Fits and the document's Fits.
-/
import Derived.Test.YtiilhnedflmgoaaWalkG
namespace Go.Proofs.Ytiilhnedflmgoaa
open Go.RowKit Go.Sort
attribute [local go_sem high] run_eqv run_neqv run_eqs

set_option maxRecDepth 100000 in
set_option maxHeartbeats 1000000 in
theorem fitsOne_any (c : C) (v : V) (hs : v.s.size ≤ 9223372036854775807) (w : World) :
    Calls Try.prog 26 #[.agg #[.string c.nm, .int .i64 c.k, .bool c.nd], .agg #[.int .i64 v.k, .int .i64 v.n, .string v.s]] w fun e w' => e = .returned (.int .i64 (fit1 c v)) ∧ Below w.heap.size w w' := by
  obtain ⟨nm, ck, nd⟩ := c
  obtain ⟨vk, vn, vs⟩ := v
  simp only at hs ⊢
  have hb0 := BoxC.new w nm ck nd
  have hb1 := hb0.up ((Below.refl _ _).alloc (Nat.le_refl _) (.cells #[.int .i64 vk, .int .i64 vn, .string vs] 40))
  have hv0 : Box ((w.alloc (.cells #[.string nm, .int .i64 ck, .bool nd] 45)).alloc (.cells #[.int .i64 vk, .int .i64 vn, .string vs] 40)) (w.heap.size + 1) 0 vk vn vs := by
    have := Box.new (w.alloc (.cells #[.string nm, .int .i64 ck, .bool nd] 45)) vk vn vs
    simpa using this
  have HW := Lib.hid ((((Below.refl _ w).alloc (Nat.le_refl _) (.cells #[.string nm, .int .i64 ck, .bool nd] 45))).alloc (by simp) (.cells #[.int .i64 vk, .int .i64 vn, .string vs] 40))
  have HM := Lib.hid (fun W => may_any vk vn vs hs W)
  have HC := Lib.hid (fun (W : World) (h : Below _ _ W) => hb1.up h)
  have HV := Lib.hid (fun (W : World) (h : Below _ _ W) => hv0.up h)
  clear hb0 hb1 hv0
  cases em : may vk vn vs with
  | false =>
    have e : fit1 ⟨nm, ck, nd⟩ ⟨vk, vn, vs⟩ = 5 := by simp [fit1, V.may, em]
    rw [e]
    simp only [em] at HM
    clear e HC HV
    go_enter Try.func26, Try.ntmps26
    go_wp2_with (go_at_call 39; refine (HM.out _).mono ?_; rintro e w1 ⟨rfl, hb⟩; have HB := Lib.hid (below_trans HW.out hb); clear hb)
    go_ret
    exact ⟨rfl, HB.out⟩
  | true =>
    simp only [em] at HM
    by_cases hk : vk = 0
    · subst hk
      cases nd with
      | true =>
        have e : fit1 ⟨nm, ck, true⟩ ⟨0, vn, vs⟩ = 50 := by simp [fit1, V.may, em]
        rw [e]
        clear e em
        go_enter Try.func26, Try.ntmps26
        go_wp2_with (go_at_call 39; refine (HM.out _).mono ?_; rintro e w1 ⟨rfl, hb⟩; obtain ⟨b0, b1, b2⟩ := HC.out _ hb; obtain ⟨v0, v1, v2⟩ := HV.out _ hb; simp only [Nat.zero_add] at b0 b1 b2 v0 v1 v2; have HB := Lib.hid (below_trans HW.out hb); clear hb)
        go_ret
        exact ⟨rfl, HB.out⟩
      | false =>
        have e : fit1 ⟨nm, ck, false⟩ ⟨0, vn, vs⟩ = 0 := by simp [fit1, V.may, em]
        rw [e]
        clear e em
        go_enter Try.func26, Try.ntmps26
        go_wp2_with (go_at_call 39; refine (HM.out _).mono ?_; rintro e w1 ⟨rfl, hb⟩; obtain ⟨b0, b1, b2⟩ := HC.out _ hb; obtain ⟨v0, v1, v2⟩ := HV.out _ hb; simp only [Nat.zero_add] at b0 b1 b2 v0 v1 v2; have HB := Lib.hid (below_trans HW.out hb); clear hb)
        go_ret
        exact ⟨rfl, HB.out⟩
    · have d1 : (vk == 0) = false := beq_false_of_ne hk
      have d2 : (vk != 0) = true := bne_iff_ne.2 hk
      by_cases hc : vk = ck
      · subst hc
        have e : fit1 ⟨nm, vk, nd⟩ ⟨vk, vn, vs⟩ = 0 := by simp [fit1, V.may, em, hk]
        rw [e]
        have d4 : (vk != vk) = false := by simp
        clear e hk em
        go_enter Try.func26, Try.ntmps26
        go_wp2_with (go_at_call 39; refine (HM.out _).mono ?_; rintro e w1 ⟨rfl, hb⟩; obtain ⟨b0, b1, b2⟩ := HC.out _ hb; obtain ⟨v0, v1, v2⟩ := HV.out _ hb; simp only [Nat.zero_add] at b0 b1 b2 v0 v1 v2; have HB := Lib.hid (below_trans HW.out hb); clear hb)
        go_ret
        exact ⟨rfl, HB.out⟩
      · have e : fit1 ⟨nm, ck, nd⟩ ⟨vk, vn, vs⟩ = 30 := by simp [fit1, V.may, em, hk, hc]
        rw [e]
        have d3 : (vk == ck) = false := beq_false_of_ne hc
        have d4 : (vk != ck) = true := bne_iff_ne.2 hc
        clear e hk em hc
        go_enter Try.func26, Try.ntmps26
        go_wp2_with (go_at_call 39; refine (HM.out _).mono ?_; rintro e w1 ⟨rfl, hb⟩; obtain ⟨b0, b1, b2⟩ := HC.out _ hb; obtain ⟨v0, v1, v2⟩ := HV.out _ hb; simp only [Nat.zero_add] at b0 b1 b2 v0 v1 v2; have HB := Lib.hid (below_trans HW.out hb); clear hb)
        go_ret
        exact ⟨rfl, HB.out⟩

theorem fitsE_cols {cs : List C} {vs : List V} (h : mayC cs = false) : fitsE cs vs = 1 := if_pos h
theorem fitsE_len {cs : List C} {vs : List V} (h : vs.length ≠ cs.length) : fitsE cs vs = 1 := by
  unfold fitsE
  rw [if_pos h]
  simp
theorem fitsE_two {cs : List C} {vs : List V} (h : mayC cs = true) (hl : vs.length = cs.length) : fitsE cs vs = fits2 cs vs := by
  unfold fitsE
  rw [if_neg (by simp [h]), if_neg (by omega)]
set_option maxRecDepth 100000 in
set_option maxHeartbeats 2000000 in
theorem fits_any (A : Option Addr) (n c : Nat) (cs : List C) (B : Option Addr) (m d : Nat) (vs : List V) (w : World) (ha : RC w A n cs) (hb : RV w B m vs) (hnc : n ≤ c) :
    Calls Try.prog 14 #[.slice A n c, .slice B m d] w fun e w' => e = .returned (.int .i64 (fitsE cs vs)) ∧ Below w.heap.size w w' := by
  have hla := Lib.hid ha.1
  have hlb := Lib.hid hb.1
  have hna := ha.2.2.1
  have hnb := hb.2.2.1
  have HA := Lib.hid ha
  have HB := Lib.hid hb
  have HM := Lib.hid (mayC_any A n c cs w ha hnc)
  clear ha hb
  cases em : mayC cs with
  | false =>
    rw [fitsE_cols em]
    simp only [em] at HM
    clear em
    go_enter Try.func14, Try.ntmps14
    go_wp2_with (go_at_call 9; refine HM.out.mono ?_; rintro e w1 ⟨rfl, hb⟩; have HW := Lib.hid hb; clear hb)
    go_ret
    exact ⟨rfl, HW.out⟩
  | true =>
    simp only [em] at HM
    by_cases hnm : m = n
    · subst hnm
      rw [fitsE_two em (by rw [hla.out, hlb.out])]
      clear em
      go_enter Try.func14, Try.ntmps14
      go_wp2_with (go_at_call 9; refine HM.out.mono ?_; rintro e w1 ⟨rfl, hb⟩; have HW := Lib.hid hb; clear hb)
      go_loopw [20] (fun i wr => ∃ k : Nat, k ≤ m ∧ i = .int .i64 (k : Int) ∧ fits2 cs vs = fits2 (cs.drop k) (vs.drop k) ∧ Below w.heap.size w wr) (fun i _ => m - (intOf i).toNat)
      case atStart => exact ⟨0, by omega, rfl, rfl, HW.out⟩
      case round =>
        obtain ⟨k, hk, rfl, hrec, hbel⟩ := hrel
        have HT := Lib.hid hrec
        clear HW
        have HW := Lib.hid hbel
        have hsz := hbel.size
        clear hrec hbel HM
        by_cases hlt : k < m
        · obtain ⟨g, o, x, rfl, hg, hx, hox, bx⟩ := (HA.out.below HW.out).at_ hlt
          obtain ⟨g', o', y, rfl, hg', hy, hoy, by_⟩ := (HB.out.below HW.out).at_ hlt
          have HC := Lib.hid (fun W => fitsOne_any x y hoy.s W)
          have hst := Lib.hid (fits2_step hx hy)
          obtain ⟨y0, y1, y2⟩ := (by_.up ((Below.refl _ wr).alloc (Nat.le_refl _) (.cells #[.string x.nm, .int .i64 x.k, .bool x.nd] 45))).grown
          obtain ⟨x0, x1, x2⟩ := (BoxC.new wr x.nm x.k x.nd).grown
          obtain ⟨q0, q1, q2⟩ := bx
          generalize fit1 x y = z at HC hst
          obtain ⟨xn, xk, xd⟩ := x
          obtain ⟨yk, yn, ys⟩ := y
          simp only at HC q0 q1 q2 x0 x1 x2 y0 y1 y2
          clear hx hy hox hoy by_
          by_cases hz : z = 0
          · subst hz
            have HN : Hid (fits2 cs vs = fits2 (cs.drop (k + 1)) (vs.drop (k + 1))) := by show _ = _; rw [HT.out, hst.out]; rfl
            go_wp2_with fail
            refine wp_region_quiet_below (by kernel_rfl) (by kernel_rfl) ?_
            repeat (go_big_quiet_step ((go_at_call 26; exact Calls.regrown_of (HC.out _))))
            refine wpQuiet_nil ?_
            intro _ hw'
            obtain ⟨p, rfl⟩ := hw'
            go_wp2
            go_roundw
            case rel => exact ⟨k + 1, by omega, by go_num, HN.out, below_trans (HW.out.alloc hsz _) (below_regrown _ _ _)⟩
            case measure => simp [intOf]; omega
          · have HN : Hid (fits2 cs vs = z) := by show _ = _; rw [HT.out, hst.out, if_neg hz]
            have hz1 : (z == 0) = false := beq_false_of_ne hz
            have hz2 : (z != 0) = true := bne_iff_ne.2 hz
            go_wp2_with fail
            refine wp_region_quiet_below (by kernel_rfl) (by kernel_rfl) ?_
            repeat (go_big_quiet_step ((go_at_call 26; exact Calls.regrown_of (HC.out _))))
            refine wpQuiet_nil ?_
            intro _ hw'
            obtain ⟨p, rfl⟩ := hw'
            go_wp2
            go_ret
            exact ⟨by rw [HN.out]; rfl, below_trans (HW.out.alloc hsz _) (below_regrown _ _ _)⟩
        · obtain rfl : k = m := by omega
          have HN : Hid (fits2 cs vs = 0) := by show _ = _; rw [HT.out]; exact fits2_end (by rw [hla.out]; omega)
          go_wp2
          go_ret
          exact ⟨by rw [HN.out]; rfl, HW.out⟩
    · rw [fitsE_len (by rw [hla.out, hlb.out]; exact hnm)]
      have d1 : ((m : Int) == (n : Int)) = false := beq_false_of_ne (by omega)
      have d2 : ((m : Int) != (n : Int)) = true := bne_iff_ne.2 (by omega)
      clear em hnm
      go_enter Try.func14, Try.ntmps14
      go_wp2_with (go_at_call 9; refine HM.out.mono ?_; rintro e w1 ⟨rfl, hb⟩; have HW := Lib.hid hb; clear hb)
      go_ret
      exact ⟨rfl, HW.out⟩

/-! ### The document's Fits -/
theorem fit1_cases (x : C) (y : V) : (y.may = false ∧ fit1 x y = 5) ∨ (y.may = true ∧ y.k = 0 ∧ x.nd = true ∧ fit1 x y = 50) ∨ (y.may = true ∧ y.k = 0 ∧ x.nd = false ∧ fit1 x y = 0) ∨ (y.may = true ∧ y.k ≠ 0 ∧ y.k = x.k ∧ fit1 x y = 0) ∨ (y.may = true ∧ y.k ≠ 0 ∧ y.k ≠ x.k ∧ fit1 x y = 30) := by
  unfold fit1
  cases y.may
  · left; exact ⟨rfl, rfl⟩
  · right
    by_cases h0 : y.k = 0
    · cases x.nd
      · right; left; simp [h0]
      · left; simp [h0]
    · by_cases h1 : y.k = x.k
      · right; right; left; simp [h1] at h0 ⊢; exact ⟨h0, fun h => absurd h h0⟩
      · right; right; right; simp [h0, h1]
set_option maxRecDepth 100000 in
set_option maxHeartbeats 2000000 in
theorem rfits_any (A : Option Addr) (n c : Nat) (cs : List C) (B : Option Addr) (m d : Nat) (vs : List V) (w : World) (ha : RC w A n cs) (hb : RV w B m vs) :
    Calls Try.prog 17 #[.slice A n c, .slice B m d] w fun e w' => e = .returned (.int .i64 (fitsE cs vs)) ∧ Below w.heap.size w w' := by
  have hla := Lib.hid ha.1
  have hlb := Lib.hid hb.1
  have hna := ha.2.2.1
  have hnb := hb.2.2.1
  have HA := Lib.hid ha
  have HB := Lib.hid hb
  have HM := Lib.hid (rmayC_any A n c cs w ha)
  clear ha hb
  cases em : mayC cs with
  | false =>
    rw [fitsE_cols em]
    simp only [em] at HM
    clear em
    go_enter Try.func17, Try.ntmps17
    go_wp2_with (go_at_call 11; refine HM.out.mono ?_; rintro e w1 ⟨rfl, hb⟩; have HW := Lib.hid hb; clear hb)
    go_ret
    exact ⟨rfl, HW.out⟩
  | true =>
    simp only [em] at HM
    by_cases hnm : m = n
    · subst hnm
      rw [fitsE_two em (by rw [hla.out, hlb.out])]
      clear em
      go_enter Try.func17, Try.ntmps17
      go_wp2_with (go_at_call 11; refine HM.out.mono ?_; rintro e w1 ⟨rfl, hb⟩; have HW := Lib.hid hb; clear hb)
      go_loopw [5] (fun i wr => ∃ k : Nat, k ≤ m ∧ i = .int .i64 (k : Int) ∧ fits2 cs vs = fits2 (cs.drop k) (vs.drop k) ∧ Below w.heap.size w wr) (fun i _ => m - (intOf i).toNat)
      case atStart => exact ⟨0, by omega, rfl, rfl, HW.out⟩
      case round =>
        obtain ⟨k, hk, rfl, hrec, hbel⟩ := hrel
        have HT := Lib.hid hrec
        clear HW
        have HW := Lib.hid hbel
        have hsz := hbel.size
        clear hrec hbel HM
        by_cases hlt : k < m
        · obtain ⟨g, o, x, rfl, hg, hx, hox, bx⟩ := (HA.out.below HW.out).at_ hlt
          obtain ⟨g', o', y, rfl, hg', hy, hoy, by_⟩ := (HB.out.below HW.out).at_ hlt
          have HC := Lib.hid (fun W => rmay_any y.k y.n y.s hoy.s W)
          have hst := Lib.hid (fits2_step hx hy)
          have HX := Lib.hid (fun (W : World) (h : Below wr.heap.size wr W) => bx.up h)
          have HY := Lib.hid (fun (W : World) (h : Below wr.heap.size wr W) => by_.up h)
          have hcase := fit1_cases x y
          generalize fit1 x y = z at hcase hst
          obtain ⟨xn, xk, xd⟩ := x
          obtain ⟨yk, yn, ys⟩ := y
          simp only [V.may] at HC HX HY hcase
          obtain ⟨y0, y1, y2⟩ := by_
          simp only at y0 y1 y2
          clear hx hy hox hoy bx
          rcases hcase with ⟨em, rfl⟩ | ⟨em, rfl, rfl, rfl⟩ | ⟨em, rfl, rfl, rfl⟩ | ⟨em, h0, rfl, rfl⟩ | ⟨em, h0, h1, rfl⟩
          · have HN : Hid (fits2 cs vs = 5) := by show _ = _; rw [HT.out, hst.out]; rfl
            simp only [em] at HC
            clear em
            go_wp2_with (go_at_call 34; refine (HC.out _).mono ?_; rintro e w1 ⟨rfl, hb⟩; obtain ⟨x0, x1, x2⟩ := HX.out _ hb; obtain ⟨y0, y1, y2⟩ := HY.out _ hb; have HB2 := Lib.hid (below_trans HW.out hb); clear hb)
            go_ret
            exact ⟨by rw [HN.out]; rfl, HB2.out⟩
          · have HN : Hid (fits2 cs vs = 50) := by show _ = _; rw [HT.out, hst.out]; rfl
            simp only [em] at HC
            clear em
            go_wp2_with (go_at_call 34; refine (HC.out _).mono ?_; rintro e w1 ⟨rfl, hb⟩; obtain ⟨x0, x1, x2⟩ := HX.out _ hb; obtain ⟨y0, y1, y2⟩ := HY.out _ hb; have HB2 := Lib.hid (below_trans HW.out hb); clear hb)
            go_quiet (fail)
            go_wp2
            go_ret
            exact ⟨by rw [HN.out]; rfl, below_fields HB2.out rfl rfl rfl rfl⟩
          · have HN : Hid (fits2 cs vs = fits2 (cs.drop (k + 1)) (vs.drop (k + 1))) := by show _ = _; rw [HT.out, hst.out]; rfl
            simp only [em] at HC
            clear em
            go_wp2_with (go_at_call 34; refine (HC.out _).mono ?_; rintro e w1 ⟨rfl, hb⟩; obtain ⟨x0, x1, x2⟩ := HX.out _ hb; obtain ⟨y0, y1, y2⟩ := HY.out _ hb; have HB2 := Lib.hid (below_trans HW.out hb); clear hb)
            go_quiet (fail)
            go_wp2
            go_roundw
            case rel => exact ⟨k + 1, by omega, by go_num, HN.out, below_fields HB2.out rfl rfl rfl rfl⟩
            case measure => simp [intOf]; omega
          · have HN : Hid (fits2 cs vs = fits2 (cs.drop (k + 1)) (vs.drop (k + 1))) := by show _ = _; rw [HT.out, hst.out]; rfl
            have d1 : (yk == 0) = false := beq_false_of_ne h0
            have d2 : (yk != 0) = true := bne_iff_ne.2 h0
            have d3 : (yk != yk) = false := by simp
            simp only [em] at HC
            clear em h0
            go_wp2_with (go_at_call 34; refine (HC.out _).mono ?_; rintro e w1 ⟨rfl, hb⟩; obtain ⟨x0, x1, x2⟩ := HX.out _ hb; obtain ⟨y0, y1, y2⟩ := HY.out _ hb; have HB2 := Lib.hid (below_trans HW.out hb); clear hb)
            go_quiet (fail)
            go_wp2
            go_roundw
            case rel => exact ⟨k + 1, by omega, by go_num, HN.out, below_fields HB2.out rfl rfl rfl rfl⟩
            case measure => simp [intOf]; omega
          · have HN : Hid (fits2 cs vs = 30) := by show _ = _; rw [HT.out, hst.out]; rfl
            have d1 : (yk == 0) = false := beq_false_of_ne h0
            have d2 : (yk != 0) = true := bne_iff_ne.2 h0
            have d3 : (yk == xk) = false := beq_false_of_ne h1
            have d4 : (yk != xk) = true := bne_iff_ne.2 h1
            simp only [em] at HC
            clear em h0 h1
            go_wp2_with (go_at_call 34; refine (HC.out _).mono ?_; rintro e w1 ⟨rfl, hb⟩; obtain ⟨x0, x1, x2⟩ := HX.out _ hb; obtain ⟨y0, y1, y2⟩ := HY.out _ hb; have HB2 := Lib.hid (below_trans HW.out hb); clear hb)
            go_quiet (fail)
            go_wp2
            go_ret
            exact ⟨by rw [HN.out]; rfl, below_fields HB2.out rfl rfl rfl rfl⟩
        · obtain rfl : k = m := by omega
          have HN : Hid (fits2 cs vs = 0) := by show _ = _; rw [HT.out]; exact fits2_end (by rw [hla.out]; omega)
          go_wp2
          go_ret
          exact ⟨by rw [HN.out]; rfl, HW.out⟩
    · rw [fitsE_len (by rw [hla.out, hlb.out]; exact hnm)]
      have d1 : ((m : Int) == (n : Int)) = false := beq_false_of_ne (by omega)
      have d2 : ((m : Int) != (n : Int)) = true := bne_iff_ne.2 (by omega)
      clear em hnm
      go_enter Try.func17, Try.ntmps17
      go_wp2_with (go_at_call 11; refine HM.out.mono ?_; rintro e w1 ⟨rfl, hb⟩; have HW := Lib.hid hb; clear hb)
      go_ret
      exact ⟨rfl, HW.out⟩
end Go.Proofs.Ytiilhnedflmgoaa
