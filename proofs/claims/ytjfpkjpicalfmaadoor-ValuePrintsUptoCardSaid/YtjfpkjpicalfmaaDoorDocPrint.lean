/-
  THE WALK OF the document's Print.
-/
import Derived.Test.YtjfpkjpicalfmaaDoorDigits
import Derived.Test.YtjfpkjpicalfmaaDoorQuote
namespace Go.Proofs.YtjfpkjpicalfmaaDoor
open Go.RowKit Go.Sort
open Go.Lib (itoa decDigits formatBool)
attribute [local go_sem high] run_eq23 run_neq23 run_eq9

/-- the outcome of Print -/
def PrOut (w : World) (v : V) (e : Ending) (w' : World) : Prop := e = .returned (.tuple #[.string (printB v), .int .i64 (printE v)]) ∧ Below w.heap.size w w'
theorem pr_null : printB ⟨0, 0, ⟨#[]⟩⟩ = ⟨#[110, 117, 108, 108]⟩ := by
  unfold printB
  rw [if_pos (by simp [V.may, may, seq_refl])]
  rfl
theorem pr_bool (q : Bool) : printB ⟨3, bit q, ⟨#[]⟩⟩ = ⟨(formatBool q).toArray⟩ := by
  have hm : (⟨3, bit q, ⟨#[]⟩⟩ : V).may = true := by cases q <;> simp [V.may, may, seq_refl, bit]
  unfold printB
  rw [if_pos hm, if_neg (by simp), if_pos rfl]
  cases q
  · have : veq 3 (bit false) ⟨#[]⟩ 3 1 ⟨#[]⟩ = false := by simp [veq, bit]
    rw [this]
  · have : veq 3 (bit true) ⟨#[]⟩ 3 1 ⟨#[]⟩ = true := by simp [veq, bit, seq_refl]
    rw [this]
theorem pr_false : printB ⟨3, 0, ⟨#[]⟩⟩ = ⟨#[102, 97, 108, 115, 101]⟩ := (pr_bool false).trans (by decide)
theorem pr_true : printB ⟨3, 1, ⟨#[]⟩⟩ = ⟨#[116, 114, 117, 101]⟩ := (pr_bool true).trans (by decide)
theorem pr_int (n : Int) : printB ⟨1, n, ⟨#[]⟩⟩ = ⟨(itoa n).toArray⟩ := by
  unfold printB
  rw [if_pos (by simp [V.may, may, seq_refl]), if_neg (by simp), if_neg (by simp), if_pos rfl]
theorem pr_text {t : ByteArray} (h : t.size ≤ 64) : printB ⟨2, 0, t⟩ = bs (quoted t) := by rw [← print_t t h, bs_sb]
theorem esc_at (s : ByteArray) (j : Nat) (h : j < s.size) : escN ((sb s).take (j + 1)) = escN ((sb s).take j) ++ (if s[j].toNat = 39 then [39, 39] else [s[j].toNat]) := by
  rw [sb_at s j h, escN_append]
  congr 1

set_option maxRecDepth 100000 in
set_option maxHeartbeats 2000000 in
theorem rpr_not (k n : Int) (s : ByteArray) (hs : s.size ≤ 9223372036854775807) (hm : may k n s = false) (w : World) : Calls Tryd.prog 41 #[.agg #[.int .i64 k, .int .i64 n, .string s]] w (PrOut w ⟨k, n, s⟩) := by
  have e1 : printB ⟨k, n, s⟩ = ⟨#[]⟩ := by unfold printB V.may; rw [hm]; rfl
  have e2 : printE ⟨k, n, s⟩ = 5 := by unfold printE V.may; rw [hm]; rfl
  unfold PrOut
  rw [e1, e2]
  have HM := Lib.hid (fun W => rmay_any k n s hs W)
  rw [hm] at HM
  clear e1 e2 hm hs
  go_enter Tryd.func41, Tryd.ntmps41
  go_wp2_with fail
  refine (HM.out _).mono ?_
  rintro e w1 ⟨rfl, hb⟩
  go_wp2
  go_ret2
  exact ⟨rfl, below_trans ((Below.refl _ _).alloc (Nat.le_refl _) _) hb⟩
set_option maxRecDepth 100000 in
set_option maxHeartbeats 2000000 in
theorem rpr_small (k n : Int) (hkn : (k = 0 ∧ n = 0) ∨ (k = 3 ∧ n = 0) ∨ (k = 3 ∧ n = 1)) (w : World) : Calls Tryd.prog 41 #[.agg #[.int .i64 k, .int .i64 n, .string ⟨#[]⟩]] w (PrOut w ⟨k, n, ⟨#[]⟩⟩) := by
  have HM := Lib.hid (fun W => rmay_any k n ⟨#[]⟩ (Nat.zero_le _) W)
  unfold PrOut
  rcases hkn with ⟨rfl, rfl⟩ | ⟨rfl, rfl⟩ | ⟨rfl, rfl⟩
  · have hm : may 0 0 ⟨#[]⟩ = true := by simp [may, seq_refl]
    have e2 : printE ⟨0, 0, ⟨#[]⟩⟩ = 0 := by unfold printE V.may; rw [hm]; rfl
    rw [hm] at HM
    rw [pr_null, e2]
    clear hm e2
    go_enter Tryd.func41, Tryd.ntmps41
    go_wp2_with fail
    refine (HM.out _).mono ?_
    rintro e w1 ⟨rfl, hb⟩
    obtain ⟨c0, c1, c2⟩ := (Box.new w 0 0 ⟨#[]⟩).up hb
    have HB := Lib.hid (below_trans ((Below.refl _ w).alloc (Nat.le_refl _) _) hb)
    clear hb
    go_wp2
    go_ret2
    exact ⟨rfl, HB.out⟩
  · have hm : may 3 0 ⟨#[]⟩ = true := by simp [may, seq_refl]
    have e2 : printE ⟨3, 0, ⟨#[]⟩⟩ = 0 := by unfold printE V.may; rw [hm]; rfl
    rw [hm] at HM
    rw [pr_false, e2]
    clear hm e2
    go_enter Tryd.func41, Tryd.ntmps41
    go_wp2_with fail
    refine (HM.out _).mono ?_
    rintro e w1 ⟨rfl, hb⟩
    obtain ⟨c0, c1, c2⟩ := (Box.new w 3 0 ⟨#[]⟩).up hb
    have HB := Lib.hid (below_trans ((Below.refl _ w).alloc (Nat.le_refl _) _) hb)
    clear hb
    go_wp2
    go_ret2
    exact ⟨rfl, HB.out⟩
  · have hm : may 3 1 ⟨#[]⟩ = true := by simp [may, seq_refl]
    have e2 : printE ⟨3, 1, ⟨#[]⟩⟩ = 0 := by unfold printE V.may; rw [hm]; rfl
    rw [hm] at HM
    rw [pr_true, e2]
    clear hm e2
    go_enter Tryd.func41, Tryd.ntmps41
    go_wp2_with fail
    refine (HM.out _).mono ?_
    rintro e w1 ⟨rfl, hb⟩
    obtain ⟨c0, c1, c2⟩ := (Box.new w 3 1 ⟨#[]⟩).up hb
    have HB := Lib.hid (below_trans ((Below.refl _ w).alloc (Nat.le_refl _) _) hb)
    clear hb
    go_wp2
    go_ret2
    exact ⟨rfl, HB.out⟩
set_option maxRecDepth 100000 in
set_option maxHeartbeats 2000000 in
theorem rpr_int (n : Int) (hn : In64 n) (w : World) : Calls Tryd.prog 41 #[.agg #[.int .i64 1, .int .i64 n, .string ⟨#[]⟩]] w (PrOut w ⟨1, n, ⟨#[]⟩⟩) := by
  have HM := Lib.hid (fun W => rmay_any 1 n ⟨#[]⟩ (Nat.zero_le _) W)
  have hm : may 1 n ⟨#[]⟩ = true := by simp [may, seq_refl]
  have e2 : printE ⟨1, n, ⟨#[]⟩⟩ = 0 := by unfold printE V.may; rw [hm]; rfl
  have HD := Lib.hid (fun W => digits_any n hn W)
  unfold PrOut
  rw [pr_int, e2]
  rw [hm] at HM
  generalize (⟨(itoa n).toArray⟩ : ByteArray) = T at HD ⊢
  clear hm e2
  go_enter Tryd.func41, Tryd.ntmps41
  go_wp2_with fail
  refine (HM.out _).mono ?_
  rintro e w1 ⟨rfl, hb⟩
  obtain ⟨c0, c1, c2⟩ := (Box.new w 1 n ⟨#[]⟩).up hb
  have HB := Lib.hid (below_trans ((Below.refl _ w).alloc (Nat.le_refl _) _) hb)
  clear hb
  go_wp2_with fail
  refine (HD.out _).mono ?_
  rintro e w2 ⟨rfl, hb⟩
  have HB2 := Lib.hid (below_trans HB.out hb)
  clear hb
  go_wp2
  go_ret2
  exact ⟨rfl, HB2.out⟩
set_option maxRecDepth 100000 in
set_option maxHeartbeats 4000000 in
theorem rpr_text (s : ByteArray) (hs : s.size ≤ 64) (w : World) : Calls Tryd.prog 41 #[.agg #[.int .i64 2, .int .i64 0, .string s]] w (PrOut w ⟨2, 0, s⟩) := by
  have HM := Lib.hid (fun W => rmay_any 2 0 s (by omega) W)
  have hm : may 2 0 s = true := by simp [may]; exact hs
  have e2 : printE ⟨2, 0, s⟩ = 0 := by unfold printE V.may; rw [hm]; rfl
  unfold PrOut
  rw [pr_text hs, e2]
  rw [hm] at HM
  clear hm e2
  go_enter Tryd.func41, Tryd.ntmps41
  go_wp2_with fail
  refine (HM.out _).mono ?_
  rintro e w1 ⟨rfl, hb⟩
  have HX := Lib.hid ((Box.new w 2 0 s).up hb)
  have hgw : w.heap.size < w1.heap.size := ((Box.new w 2 0 s).up hb).lt
  have HB := Lib.hid (below_trans ((Below.refl _ w).alloc (Nat.le_refl _) _) hb)
  obtain ⟨c0, c1, c2⟩ := HX.out
  clear hb
  have H5 : Own w1 (w1.alloc (.cells #[.int .u8 39] 5)) (.slice (some ⟨w1.heap.size, 0, none⟩) 1 1) [39] := by
    refine ⟨⟨⟨rfl, Or.inr ⟨w1.heap.size, 1, #[.int .u8 39], rfl, Nat.zero_le _, Blk.new w1 5 _, Nat.le_refl _, by simp [maxLen], rfl, rfl⟩⟩, by simp, ?_⟩, (Below.refl _ _).alloc (Nat.le_refl _) _⟩
    intro k hk
    simp [Value.ownBlock] at hk
    omega
  have HO := Lib.hid H5
  clear H5
  go_wp2
  go_loopw [4, 5] (fun v0 i wr => ∃ (j : Nat) (u : Value), u = v0 ∧ j ≤ s.size ∧ i = .int .i64 (j : Int) ∧ Own w1 wr u (39 :: escN ((sb s).take j))) (fun _ i _ => s.size - (intOf i).toNat)
  case atStart => exact ⟨0, _, rfl, by omega, rfl, by simpa [escN] using HO.out⟩
  case round =>
    obtain ⟨j, u, rfl, hj, rfl, ho⟩ := hrel
    have hlen : (39 :: escN ((sb s).take j)).length ≤ 200 := by
      have := escN_len ((sb s).take j)
      simp at this ⊢
      omega
    obtain ⟨b0, b1, b2⟩ := HX.out.below ho.2 hgw
    have HO := Lib.hid ho
    clear ho c0 c1 c2
    by_cases hlt : j < s.size
    · have hby : s[j].toNat < 256 := s[j].toNat_lt
      have HE := Lib.hid (esc_at s j hlt)
      by_cases hz : s[j].toNat = 39
      · have hz2 : (((s[j].toNat : Nat) : Int) == 39) = true := by simp; omega
        have hlen2 : (39 :: escN ((sb s).take j) ++ [39]).length ≤ 201 := by simp only [List.length_append, List.length_singleton] at hlen ⊢; omega
        go_wp2_with (first
          | (at_builtin; refine wpList_app rfl (.tmp 37) (.tmp 42) rfl u _ (39 :: escN ((sb s).take j)) rfl (HO.out.alloc _).1 (fun _ => True) (some ⟨wr.heap.size, 0, none⟩) 1 1 [39] rfl (one_of _ _ _ (by rfl) (by omega)) (by omega) ?_; intro v1 w2 hown hgrow; have HS := Lib.hid (Own.step (HO.out.alloc _) hgrow hown); obtain ⟨d0, d1, d2⟩ := HX.out.below HS.out.2 hgw; clear hown hgrow)
          | (at_builtin; go_must (refine wpList_app rfl (.tmp 49) (.tmp 50) rfl v1 _ (39 :: escN ((sb s).take j) ++ [39]) rfl (HS.out.alloc _).1 (fun _ => True) (some ⟨w2.heap.size, 0, none⟩) 1 1 [39] rfl (one_of _ _ _ (by rfl) (by omega)) (by omega) ?_); intro v2 w3 hown hgrow; have HS2 := Lib.hid (Own.step (HS.out.alloc _) hgrow hown); clear hown hgrow))
        go_roundw
        case rel =>
          refine ⟨j + 1, _, rfl, by omega, by go_num, ?_⟩
          have := HS2.out
          rw [HE.out, if_pos hz]
          simpa using this
        case measure => simp [intOf]; omega
      · have hz2 : (((s[j].toNat : Nat) : Int) == 39) = false := by simp; omega
        go_wp2_with (at_builtin; go_must (refine wpList_app rfl (.tmp 37) (.tmp 42) rfl u _ (39 :: escN ((sb s).take j)) rfl (HO.out.alloc _).1 (fun _ => True) (some ⟨wr.heap.size, 0, none⟩) 1 1 [s[j].toNat] rfl (one_of _ _ _ (by rfl) (by omega)) (by omega) ?_); intro v1 w2 hown hgrow; have HS := Lib.hid (Own.step (HO.out.alloc _) hgrow hown); obtain ⟨d0, d1, d2⟩ := HX.out.below HS.out.2 hgw; clear hown hgrow)
        go_roundw
        case rel =>
          refine ⟨j + 1, _, rfl, by omega, by go_num, ?_⟩
          rw [HE.out, if_neg hz]
          exact HS.out
        case measure => simp [intOf]; omega
    · obtain rfl : j = s.size := by omega
      have hfull : (sb s).take s.size = sb s := List.take_of_length_le (by rw [sb_len]; omega)
      rw [hfull] at HO hlen
      go_wp2_with (at_builtin; go_must (refine wpList_app rfl (.tmp 52) (.tmp 53) rfl u _ (39 :: escN (sb s)) rfl (HO.out.alloc _).1 (fun _ => True) (some ⟨wr.heap.size, 0, none⟩) 1 1 [39] rfl (one_of _ _ _ (by rfl) (by omega)) (by omega) ?_); intro v1 w2 hown hgrow; have HS := Lib.hid (Own.step (HO.out.alloc _) hgrow hown); have ho1 := HS.out.1; generalize (39 :: escN (sb s) ++ [39]).length = N9 at ho1; obtain ⟨A9, c9, rfl, _, _, hr9⟩ := ho1.reads; have hcv := run_conv _ A9 _ c9 _ _ hr9; clear hown hgrow ho1 hr9)
      go_ret2
      exact ⟨rfl, below_trans HB.out HS.out.2⟩
theorem rprint_any (v : V) (hs : v.s.size ≤ 9223372036854775807) (hn : In64 v.n) (w : World) : Calls Tryd.prog 41 #[.agg #[.int .i64 v.k, .int .i64 v.n, .string v.s]] w (PrOut w v) := by
  obtain ⟨k, n, s⟩ := v
  simp only at hs hn ⊢
  cases hm : may k n s
  · exact rpr_not k n s hs hm w
  · have hk := may_kind hm
    have hk4 : k = 0 ∨ k = 1 ∨ k = 2 ∨ k = 3 := by omega
    rcases hk4 with rfl | rfl | rfl | rfl
    · simp [may, seq_eq] at hm
      obtain ⟨rfl, rfl⟩ := hm
      exact rpr_small 0 0 (Or.inl ⟨rfl, rfl⟩) w
    · simp [may, seq_eq] at hm
      subst hm
      exact rpr_int n hn w
    · simp [may] at hm
      obtain ⟨rfl, hs⟩ := hm
      exact rpr_text s hs w
    · simp [may, seq_eq] at hm
      obtain ⟨rfl, hm⟩ := hm
      rcases hm with rfl | rfl
      · exact rpr_small 3 0 (Or.inr (Or.inl ⟨rfl, rfl⟩)) w
      · exact rpr_small 3 1 (Or.inr (Or.inr ⟨rfl, rfl⟩)) w
end Go.Proofs.YtjfpkjpicalfmaaDoor
