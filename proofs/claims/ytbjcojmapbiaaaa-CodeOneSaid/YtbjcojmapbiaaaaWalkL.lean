/-
  THE WALK OF THE DOCUMENT's READER: Text.
-/
import Derived.Test.YtbjcojmapbiaaaaWalkK
namespace Go.Proofs.Ytbjcojmapbiaaaa
open Go.RowKit

set_option maxRecDepth 100000 in
set_option maxHeartbeats 1000000 in
theorem qtext_part (w : World) (S : Nat → Prop) (g : Nat) (l : List Nat) (most : Int) (h1 : 0 ≤ most) (h2 : most ≤ 9223372036854775807) (x k : Nat) (h : Qd w S g true l)
    (hf : Cd.front l = some (x, k)) (hx : x < 18446744073709551616) (hk0 : 0 < k) (hkl : k ≤ l.length) (hxm : x ≤ l.length - k) (hxo : x ≤ most) :
    Calls Try.prog 46 #[qp g, .int .i64 most] w fun e w' => e = .returned (strV true l most) ∧ Gq w S g true l (Cd.text l most) w' := by
  obtain ⟨hS, A, m, c, hb, hr, hmc, hm⟩ := h
  have hln := hr.len
  have hcn := front_any w _ A m c l hr hm
  rw [frontV_some hf] at hcn
  have HC := Lib.hid hcn
  have HY := Lib.hid (text_yes (most := most) hf (by omega))
  have HB := Lib.hid hb
  have HRB := Lib.hid hr
  have hc0 := hb.cell 0
  have hc1 := hb.cell 1
  have hc2 := hb.frozen 0
  have hkne : ((k : Int) == 0) = false := by simp; omega
  have hkm : k ≤ m := by omega
  have hx2 : x ≤ m - k := by omega
  simp only [Bool.not_true] at hc1
  have hT : ∀ W, Qd W S g true (l.drop k) → Calls Try.prog 48 #[qp g, .int .i64 (x : Int)] W (Tk W S g true (l.drop k) x) := fun W hq => qtake_any W S g true (l.drop k) x (by omega) (by omega) hq
  have HT := Lib.hid hT
  have hTO : takeO (l.drop k) (x : Int) = some ((l.drop k).take x, x) := takeO_yes (by simp; omega)
  have HO := Lib.hid hTO
  clear hb hr hf hcn hln hT hTO hxm hkl
  unfold qp at HT ⊢
  go_enter Try.func46, Try.ntmps46
  go_wp2_with (go_at_call 62; refine HC.out.mono ?_; rintro e w' ⟨rfl, rfl⟩)
  case inl =>
    have hcx : c = k := by assumption
    have hd := HRB.out.drop hkm hmc
    rw [if_pos hcx] at hd
    have hq := Qd.at_ (ok := true) (c' := 0) hS HB.out hd (by omega) (by omega)
    have HQ := Lib.hid hq
    refine (HT.out _ hq.1).mono ?_
    rintro e w2 ⟨v, n2, rfl, hn2, ho, hg2⟩
    unfold Gq at hg2
    rw [HO.out] at hg2 ho
    have HG2 := Lib.hid hg2
    obtain ⟨A2, c2, rfl, _, _, hr2⟩ := ho.reads
    have hcv := run_conv _ _ _ c2 _ w2 hr2
    clear hq hg2 ho hr2 hn2 hd
    go_wp2
    go_ret
    unfold strV Gq
    rw [HY.out]
    refine ⟨rfl, ?_, HQ.out.2.same HG2.out.2⟩
    have hg2 := HG2.out.1
    have e : leftO true (l.drop k) (some ((l.drop k).take x, x)) = l.drop (k + x) := by
      show (l.drop k).drop x = _
      rw [List.drop_drop]
    rw [e] at hg2
    exact hg2
  case inr =>
    have hcx : ¬ c = k := by assumption
    have hd := HRB.out.drop hkm hmc
    rw [if_neg hcx] at hd
    have hq := Qd.at_ (ok := true) (c' := c - k) hS HB.out hd (by omega) (by omega)
    have HQ := Lib.hid hq
    refine (HT.out _ hq.1).mono ?_
    rintro e w2 ⟨v, n2, rfl, hn2, ho, hg2⟩
    unfold Gq at hg2
    rw [HO.out] at hg2 ho
    have HG2 := Lib.hid hg2
    obtain ⟨A2, c2, rfl, _, _, hr2⟩ := ho.reads
    have hcv := run_conv _ _ _ c2 _ w2 hr2
    clear hq hg2 ho hr2 hn2 hd
    go_wp2
    go_ret
    unfold strV Gq
    rw [HY.out]
    refine ⟨rfl, ?_, HQ.out.2.same HG2.out.2⟩
    have hg2 := HG2.out.1
    have e : leftO true (l.drop k) (some ((l.drop k).take x, x)) = l.drop (k + x) := by
      show (l.drop k).drop x = _
      rw [List.drop_drop]
    rw [e] at hg2
    exact hg2

set_option maxRecDepth 100000 in
set_option maxHeartbeats 1000000 in
theorem qtext_any (w : World) (S : Nat → Prop) (g : Nat) (ok : Bool) (l : List Nat) (most : Int) (h1 : -9223372036854775808 ≤ most) (h2 : most ≤ 9223372036854775807) (h : Qd w S g ok l) :
    Calls Try.prog 46 #[qp g, .int .i64 most] w fun e w' => e = .returned (strV ok l most) ∧ Gq w S g ok l (Cd.text l most) w' := by
  cases hfr : Cd.front l with
  | none =>
    have HN := Lib.hid (text_none (most := most) hfr)
    have HD := Lib.hid h.fault
    obtain ⟨hS, A, m, c, hb, hr, hmc, hm⟩ := h
    have hc0 := hb.cell 0
    have hc1 := hb.cell 1
    have hc2 := hb.frozen 1
    have hcn := front_any w _ A m c l hr hm
    rw [← frontV_none hfr] at hcn
    have HC := Lib.hid hcn
    unfold qp
    clear hcn hb hr hfr
    cases ok with
    | true =>
      simp only [Bool.not_true] at hc1
      go_enter Try.func46, Try.ntmps46
      go_wp2_with (go_at_call 62; refine HC.out.mono ?_; rintro e w' ⟨rfl, rfl⟩)
      all_goals
        go_ret
        unfold strV
        rw [HN.out]
        exact ⟨rfl, HD.out⟩
    | false =>
      simp only [Bool.not_false] at hc1
      go_enter Try.func46, Try.ntmps46
      go_wp2_with (go_at_call 62; refine HC.out.mono ?_; rintro e w' ⟨rfl, rfl⟩)
      all_goals
        go_ret
        exact ⟨rfl, HD.out⟩
  | some q =>
    obtain ⟨x, k⟩ := q
    obtain ⟨hk0, hkl, hk10⟩ := Cd.front_pos hfr
    have hx := Cd.front_lt hfr
    by_cases hok : ok = true ∧ ¬ (most < 0 ∨ most < x ∨ l.length - k < x)
    · obtain ⟨rfl, hbad⟩ := hok
      exact qtext_part w S g l most (by omega) h2 x k h hfr hx hk0 hkl (by omega) (by omega)
    · have HD := Lib.hid h.fault
      have hkne : ((k : Int) == 0) = false := by simp; omega
      have hlen := h.len
      obtain ⟨hS, A, m, c, hb, hr, hmc, hm⟩ := h
      have hln := hr.len
      have hkm : k ≤ m := by omega
      have hc0 := hb.cell 0
      have hc1 := hb.cell 1
      have hc2 := hb.frozen 1
      have hcn := front_any w _ A m c l hr hm
      rw [frontV_some hfr] at hcn
      have HC := Lib.hid hcn
      unfold qp
      cases ok with
      | false =>
        simp only [Bool.not_false] at hc1
        clear hcn hb hr hfr hok hln
        go_enter Try.func46, Try.ntmps46
        go_wp2_with (go_at_call 62; refine HC.out.mono ?_; rintro e w' ⟨rfl, rfl⟩)
        all_goals
          go_ret
          exact ⟨rfl, HD.out⟩
      | true =>
        have hbad : most < 0 ∨ most < x ∨ l.length - k < x := by
          rcases Classical.em (most < 0 ∨ most < x ∨ l.length - k < x) with h | h
          · exact h
          · exact absurd ⟨rfl, h⟩ hok
        have HN := Lib.hid (text_no hfr hbad)
        rw [hln] at hbad
        simp only [Bool.not_true] at hc1
        clear hcn hb hr hfr hok hln
        by_cases hm0 : most < 0
        · clear hbad
          go_enter Try.func46, Try.ntmps46
          go_wp2_with (go_at_call 62; refine HC.out.mono ?_; rintro e w' ⟨rfl, rfl⟩)
          all_goals
            go_ret
            unfold strV
            rw [HN.out]
            exact ⟨rfl, HD.out⟩
        · by_cases hmx : most < x
          · clear hbad
            go_enter Try.func46, Try.ntmps46
            go_wp2_with (go_at_call 62; refine HC.out.mono ?_; rintro e w' ⟨rfl, rfl⟩)
            all_goals
              go_ret
              unfold strV
              rw [HN.out]
              exact ⟨rfl, HD.out⟩
          · have hmk : m - k < x := by omega
            clear hbad
            go_enter Try.func46, Try.ntmps46
            go_wp2_with (go_at_call 62; refine HC.out.mono ?_; rintro e w' ⟨rfl, rfl⟩)
            all_goals
              go_ret
              unfold strV
              rw [HN.out]
              exact ⟨rfl, HD.out⟩
end Go.Proofs.Ytbjcojmapbiaaaa
