/-
  THE WALK OF THE READER's Text.
-/
import Derived.Test.YtdhgbkibbileiaaGreatWalkH
namespace Go.Proofs.YtdhgbkibbileiaaGreat
open Go.RowKit

set_option maxRecDepth 100000 in
theorem text_no {l : List Nat} {most : Int} {x k : Nat} (h : Cd.front l = some (x, k)) (hc : most < 0 ∨ most < x ∨ l.length - k < x) : Cd.text l most = none := by
  unfold Cd.text
  rw [h]
  exact if_pos hc
set_option maxRecDepth 100000 in
theorem text_yes {l : List Nat} {most : Int} {x k : Nat} (h : Cd.front l = some (x, k)) (hc : ¬ (most < 0 ∨ most < x ∨ l.length - k < x)) : Cd.text l most = some ((l.drop k).take x, k + x) := by
  unfold Cd.text
  rw [h]
  exact if_neg hc
set_option maxRecDepth 100000 in
theorem text_none {l : List Nat} {most : Int} (h : Cd.front l = none) : Cd.text l most = none := by
  unfold Cd.text
  rw [h]
def strV (ok : Bool) (l : List Nat) (most : Int) : Value := .string (strOf (valO ok (Cd.text l most) []))

set_option maxRecDepth 100000 in
theorem Rd.at_ {w : World} {S : Nat → Prop} {g : Nat} {ok : Bool} {l' : List Nat} {A B : Option Addr} {n c n' c' : Nat} (hS : S g) (hb : Blk w g 100 #[.bool ok, .slice A n c]) (hr : RB w (fun b => S b ∧ b ≠ g) B n' l') (hc : n' ≤ c') (hn : n' ≤ 140737488351232) :
    Rd (w.setCell ⟨g, 1, none⟩ (.slice B n' c')) S (some g) ok l' ∧ Fr w (w.setCell ⟨g, 1, none⟩ (.slice B n' c')) S :=
  ⟨⟨hS, _, _, _, by simpa using hb.set_ 1 (.slice B n' c'), hr.far (fun hh => hh.2 rfl) _, hc, hn⟩, (Fr.refl _ _).setCell (Or.inl hS) _⟩

set_option maxRecDepth 100000 in
set_option maxHeartbeats 1000000 in
theorem text_full (w : World) (S : Nat → Prop) (g : Nat) (l : List Nat) (most : Int) (h1 : 0 ≤ most) (h2 : most ≤ 9223372036854775807) (ad : Addr) (k : Nat) (hk0 : 0 < k) (hk10 : k ≤ 10) (hS : S g)
    (hb : Blk w g 100 #[.bool true, .slice (some ad) k k]) (hr : RB w (fun b => S b ∧ b ≠ g) (some ad) k l) (hf : Cd.front l = some (0, k)) :
    Calls Tryz.prog 110 #[ptr (some g), .int .i64 most] w fun e w' => e = .returned (strV true l most) ∧ Got w S (some g) true l (Cd.text l most) w' := by
  have hln := hr.len
  have HR := Lib.hid (readable_any w S (some g) true l ⟨hS, _, _, _, hb, hr, Nat.le_refl _, by omega⟩)
  have hcn := counted_any w _ (some ad) k k l hr (by omega)
  rw [frontV_some hf] at hcn
  have hcn' : Calls Tryz.prog 134 #[.slice (some ad) k k] w fun e w' => e = .returned (.tuple #[.int .u64 0, .int .i64 (k : Int)]) ∧ w = w' := hcn
  have HC := Lib.hid hcn'
  have HT := Lib.hid (Rd.took (k := k) hS hb hr (Nat.le_refl _) (by omega) (Nat.le_refl _))
  have HY := Lib.hid (text_yes (most := most) hf (by omega))
  have hc := hb.cell 1
  have hc0 := hb.cell 0
  have hc1 := hb.frozen 0
  have hc2 := hb.frozen 1
  have hkne : ((k : Int) == 0) = false := by simp; omega
  have hcv := fun (X : Value) (C : Nat) => run_conv (fun _ => True) (some ad) 0 C [] (w.setCell ⟨g, 1, none⟩ X) ⟨rfl, by simp, fun h => absurd h (by omega)⟩
  clear hb hr hf hcn hcn' hln
  simp only [ptr, Option.map] at HR ⊢
  go_enter Tryz.func110, Tryz.ntmps110
  go_wp2_with (first | (go_at_call 127; refine HR.out.mono ?_; rintro e w' ⟨rfl, rfl⟩) | (go_at_call 134; refine HC.out.mono ?_; rintro e w' ⟨rfl, rfl⟩))
  go_ret
  unfold strV
  rw [HY.out]
  have ht := HT.out
  rw [if_pos trivial, Nat.sub_self] at ht
  exact ⟨rfl, ht⟩

set_option maxRecDepth 100000 in
set_option maxHeartbeats 1000000 in
theorem text_part (w : World) (S : Nat → Prop) (g : Nat) (l : List Nat) (most : Int) (h1 : 0 ≤ most) (h2 : most ≤ 9223372036854775807) (ad : Addr) (m c x k : Nat) (hk0 : 0 < k) (hS : S g) (hmc : m ≤ c) (hm : m ≤ 140737488351232)
    (hb : Blk w g 100 #[.bool true, .slice (some ad) m c]) (hr : RB w (fun b => S b ∧ b ≠ g) (some ad) m l) (hf : Cd.front l = some (x, k)) (hx : x < 18446744073709551616) (hkm : k ≤ m) (hck : ¬ c = k) (hxm : x ≤ m - k) (hxo : x ≤ most) :
    Calls Tryz.prog 110 #[ptr (some g), .int .i64 most] w fun e w' => e = .returned (strV true l most) ∧ Got w S (some g) true l (Cd.text l most) w' := by
  have hln := hr.len
  have HR := Lib.hid (readable_any w S (some g) true l ⟨hS, _, _, _, hb, hr, hmc, hm⟩)
  have hcn := counted_any w _ (some ad) m c l hr hm
  rw [frontV_some hf] at hcn
  have HC := Lib.hid hcn
  have HY := Lib.hid (text_yes (most := most) hf (by omega))
  have HB := Lib.hid hb
  have hc := hb.cell 1
  have hc0 := hb.cell 0
  have hc1 := hb.frozen 0
  have hc2 := hb.frozen 1
  have hkne : ((k : Int) == 0) = false := by simp; omega
  have hbeh := hr.drop hkm hmc
  rw [if_neg hck] at hbeh
  have hbeh' : RB w (fun b => S b ∧ b ≠ g) (some (ad.add k)) (m - k) (l.drop k) := hbeh
  have hcv := fun (X : Value) (C : Nat) => run_conv _ _ x C _ (w.setCell ⟨g, 1, none⟩ X) ((hbeh'.take hxm).far (fun hh => hh.2 rfl) X)
  have HX := Lib.hid hbeh'
  have HK := Lib.hid hck
  have hck2 : k < c := by omega
  clear hb hr hf hcn hln hbeh hbeh' hck
  simp only [ptr, Option.map] at HR ⊢
  go_enter Tryz.func110, Tryz.ntmps110
  go_wp2_with (first | (go_at_call 127; refine HR.out.mono ?_; rintro e w' ⟨rfl, rfl⟩) | (go_at_call 134; refine HC.out.mono ?_; rintro e w' ⟨rfl, rfl⟩))
  all_goals
    go_ret
    unfold strV
    rw [HY.out]
    have hd := HX.out.drop hxm (show m - k ≤ c - k by omega)
    rw [List.drop_drop] at hd
    refine ⟨rfl, ?_⟩
    by_cases hcx : c - k = x
    · rw [if_pos hcx] at hd
      first
      | exact Rd.at_ hS HB.out hd (by omega) (by omega)
      | (exfalso; revert hcx; assumption)
    · rw [if_neg hcx] at hd
      first
      | exact Rd.at_ hS HB.out hd (by omega) (by omega)
      | (exfalso; apply hcx; assumption)

set_option maxRecDepth 100000 in
set_option maxHeartbeats 1000000 in
theorem text_any (w : World) (S : Nat → Prop) (p : Option Nat) (ok : Bool) (l : List Nat) (most : Int) (h1 : -9223372036854775808 ≤ most) (h2 : most ≤ 9223372036854775807) (h : Rd w S p ok l) :
    Calls Tryz.prog 110 #[ptr p, .int .i64 most] w fun e w' => e = .returned (strV ok l most) ∧ Got w S p ok l (Cd.text l most) w' := by
  have HR := Lib.hid (readable_any w S p ok l h)
  cases ok with
  | false =>
    have HD := Lib.hid h
    clear h
    go_enter Tryz.func110, Tryz.ntmps110
    go_wp2_with (go_at_call 127; refine HR.out.mono ?_; rintro e w' ⟨rfl, rfl⟩)
    go_ret
    exact ⟨rfl, HD.out, Fr.refl _ _⟩
  | true =>
    obtain ⟨g, rfl⟩ := rd_some h
    have hf := Rd.fault h
    have HD := Lib.hid hf
    obtain ⟨hS, A, m, c, hb, hr, hmc, hm⟩ := h
    have hln := hr.len
    cases hfr : Cd.front l with
    | none =>
      have hc := hb.cell 1
      have hc0 := hb.cell 0
      have hc1 := hb.frozen 0
      have hcn := counted_any w _ A m c l hr hm
      rw [← frontV_none hfr] at hcn
      have HC := Lib.hid hcn
      have HN := Lib.hid (text_none (most := most) hfr)
      clear hcn hf hb hr hfr
      simp only [ptr, Option.map] at HR ⊢
      go_enter Tryz.func110, Tryz.ntmps110
      go_wp2_with (first | (go_at_call 127; refine HR.out.mono ?_; rintro e w' ⟨rfl, rfl⟩) | (go_at_call 134; refine HC.out.mono ?_; rintro e w' ⟨rfl, rfl⟩))
      all_goals
        go_ret
        unfold strV
        rw [HN.out]
        exact ⟨rfl, HD.out⟩
    | some q =>
      obtain ⟨x, k⟩ := q
      obtain ⟨hk0, hkl, hk10⟩ := Cd.front_pos hfr
      have hx := Cd.front_lt hfr
      have hkm : k ≤ m := by omega
      obtain ⟨ad, rfl, _, _⟩ := hr.at_ (k := 0) (by omega)
      by_cases hbad : most < 0 ∨ most < x ∨ l.length - k < x
      · have HN := Lib.hid (text_no hfr hbad)
        have hc := hb.cell 1
        have hc0 := hb.cell 0
        have hc1 := hb.frozen 0
        have hcn := counted_any w _ (some ad) m c l hr hm
        rw [frontV_some hfr] at hcn
        have HC := Lib.hid hcn
        have hkne : ((k : Int) == 0) = false := by simp; omega
        clear hcn hf hb hr hfr
        simp only [ptr, Option.map] at HR ⊢
        by_cases hm0 : most < 0
        · clear hbad
          go_enter Tryz.func110, Tryz.ntmps110
          go_wp2_with (first | (go_at_call 127; refine HR.out.mono ?_; rintro e w' ⟨rfl, rfl⟩) | (go_at_call 134; refine HC.out.mono ?_; rintro e w' ⟨rfl, rfl⟩))
          all_goals
            go_ret
            unfold strV
            rw [HN.out]
            exact ⟨rfl, HD.out⟩
        · by_cases hmx : most < x
          · clear hbad
            go_enter Tryz.func110, Tryz.ntmps110
            go_wp2_with (first | (go_at_call 127; refine HR.out.mono ?_; rintro e w' ⟨rfl, rfl⟩) | (go_at_call 134; refine HC.out.mono ?_; rintro e w' ⟨rfl, rfl⟩))
            all_goals
              go_ret
              unfold strV
              rw [HN.out]
              exact ⟨rfl, HD.out⟩
          · have hmk : m - k < x := by omega
            clear hbad
            go_enter Tryz.func110, Tryz.ntmps110
            go_wp2_with (first | (go_at_call 127; refine HR.out.mono ?_; rintro e w' ⟨rfl, rfl⟩) | (go_at_call 134; refine HC.out.mono ?_; rintro e w' ⟨rfl, rfl⟩))
            all_goals
              go_ret
              unfold strV
              rw [HN.out]
              exact ⟨rfl, HD.out⟩
      · have hb1 : ¬ most < 0 := fun h => hbad (Or.inl h)
        have hb2 : ¬ most < x := fun h => hbad (Or.inr (Or.inl h))
        have hb3 : ¬ l.length - k < x := fun h => hbad (Or.inr (Or.inr h))
        clear HR HD hf
        by_cases hck : c = k
        · subst hck
          obtain rfl : m = c := by omega
          obtain rfl : x = 0 := by omega
          exact text_full w S g l most (by omega) h2 ad m hk0 hk10 hS hb hr hfr
        · exact text_part w S g l most (by omega) h2 ad m c x k hk0 hS hmc hm hb hr hfr hx hkm hck (by omega) (by omega)

end Go.Proofs.YtdhgbkibbileiaaGreat
