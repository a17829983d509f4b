/-
  THE WALKS OF the document's Neg and Join.
-/
import Derived.Test.YtjfpkjpicalfmaaDoorReck1
namespace Go.Proofs.YtjfpkjpicalfmaaDoor
open Go.RowKit Go.Sort
attribute [local go_sem high] run_eq23 run_neq23 run_eq9

set_option maxRecDepth 100000 in
set_option maxHeartbeats 2000000 in
theorem rneg_any (a : V) (ha : In64 a.n) (hsa : a.s.size ≤ 9223372036854775807) (w : World) :
    Calls Tryd.prog 37 #[.agg #[.int .i64 a.k, .int .i64 a.n, .string a.s]] w fun e w' =>
      e = .returned (.tuple #[.agg #[.int .i64 (reckV 1 ⟨1, 0, ⟨#[]⟩⟩ a).k, .int .i64 (reckV 1 ⟨1, 0, ⟨#[]⟩⟩ a).n, .string (reckV 1 ⟨1, 0, ⟨#[]⟩⟩ a).s], .int .i64 (reckE 1 ⟨1, 0, ⟨#[]⟩⟩ a)]) ∧ Below w.heap.size w w' := by
  have HC := Lib.hid (reckon1 ⟨1, 0, ⟨#[]⟩⟩ a (by show In64 0; unfold In64; omega) ha (by show (0 : Nat) ≤ _; omega) hsa)
  have HT := Lib.hid (fun (w' : World) (h : Below (w.heap.size + 2) (N2 w a) w') => one_box h (Nat.le_refl _))
  generalize reckV 1 ⟨1, 0, ⟨#[]⟩⟩ a = v at HC ⊢
  generalize reckE 1 ⟨1, 0, ⟨#[]⟩⟩ a = he at HC ⊢
  obtain ⟨vk, vn, vs⟩ := v
  obtain ⟨k, n, s⟩ := a
  simp only at HC HT ⊢
  clear ha hsa
  go_enter Tryd.func37, Tryd.ntmps37
  go_wp2_with fail
  refine (HC.out _).mono ?_
  rintro e w1 ⟨rfl, hb1⟩
  obtain ⟨K1, Z1, B1, hz1⟩ := HT.out w1 (hb1.mono (by simp))
  have HB1 := Lib.hid B1
  obtain ⟨⟨r0, r1, r2⟩, f0, f1, f2⟩ := Z1.facts
  clear hb1 Z1 B1 K1 HT HC
  go_wp2
  refine bodyPost_ret (v := .tuple #[.agg #[.int .i64 vk, .int .i64 vn, .string vs], .int .i64 he]) (by simp [results, Tryd.results37, go_sem, r0, r1, r2]) rfl ?_
  refine ⟨rfl, ?_⟩
  repeat (first | exact HB1.out | refine below_store ?_ (by omega) _)

theorem join_bad {a b : V} (h : want 2 [a, b] ≠ 0) : joinV a b = ⟨0, 0, ⟨#[]⟩⟩ ∧ joinE a b = want 2 [a, b] := by
  unfold joinV joinE
  rw [if_neg h, if_neg h]
  exact ⟨rfl, rfl⟩
theorem join_null {a b : V} (h : want 2 [a, b] = 0) (hn : (a.k == 0 || b.k == 0) = true) : joinV a b = ⟨0, 0, ⟨#[]⟩⟩ ∧ joinE a b = 0 := by
  obtain ⟨h1, h2⟩ := want_may h (by decide)
  unfold joinV joinE
  rw [if_pos h, if_pos h, isNull_may h1, isNull_may h2, if_pos hn, if_pos hn]
  exact ⟨rfl, rfl⟩
theorem join_full {a b : V} (h : want 2 [a, b] = 0) (hn : (a.k == 0 || b.k == 0) = false) :
    joinV a b = (if 64 < a.s.size + b.s.size then ⟨0, 0, ⟨#[]⟩⟩ else ⟨2, 0, a.s ++ b.s⟩) ∧ joinE a b = (if 64 < a.s.size + b.s.size then 3 else 0) := by
  obtain ⟨h1, h2⟩ := want_may h (by decide)
  unfold joinV joinE
  rw [if_pos h, if_pos h, isNull_may h1, isNull_may h2, hn]
  exact ⟨rfl, rfl⟩

set_option maxRecDepth 100000 in
set_option maxHeartbeats 2000000 in
theorem rjoin_any (a b : V) (hsa : a.s.size ≤ 9223372036854775807) (hsb : b.s.size ≤ 9223372036854775807) (w : World) :
    Calls Tryd.prog 39 #[.agg #[.int .i64 a.k, .int .i64 a.n, .string a.s], .agg #[.int .i64 b.k, .int .i64 b.n, .string b.s]] w fun e w' =>
      e = .returned (.tuple #[.agg #[.int .i64 (joinV a b).k, .int .i64 (joinV a b).n, .string (joinV a b).s], .int .i64 (joinE a b)]) ∧ Below w.heap.size w w' := by
  have HC := Lib.hid (rfit_any 2 a b hsa hsb)
  have HT := Lib.hid (fun (w' : World) (h : Below (w.heap.size + 3) (M3 w a b) w') => three_boxes h (Nat.le_refl _))
  clear hsa hsb
  by_cases hz : want 2 [a, b] = 0
  · cases hk : (a.k == 0 || b.k == 0)
    · obtain ⟨h1, h2⟩ := want_may hz (by decide)
      have s1 := may_size h1
      have s2 := may_size h2
      obtain ⟨hv, he⟩ := join_full hz hk
      rw [Bool.or_eq_false_iff] at hk
      obtain ⟨hka, hkb⟩ := hk
      rw [hv, he]
      rw [hz] at HC
      clear hv he hz h1 h2
      obtain ⟨k, n, s⟩ := a
      obtain ⟨k', n', s'⟩ := b
      simp only at HC HT hka hkb s1 s2 ⊢
      have hm1 : -9223372036854775808 ≤ 64 - (s'.size : Int) := by omega
      have hm2 : 64 - (s'.size : Int) ≤ 9223372036854775807 := by omega
      by_cases hl : 64 < s.size + s'.size
      · rw [if_pos hl, if_pos hl]
        have hd : decide ((s.size : Int) > 64 - (s'.size : Int)) = true := decide_eq_true (by omega)
        clear hl
        go_enter Tryd.func39, Tryd.ntmps39
        go_wp2_with fail
        refine (HC.out _).mono ?_
        rintro e w1 ⟨rfl, hb1⟩
        obtain ⟨K1, Z1, B1, hz1⟩ := HT.out w1 (hb1.mono (by simp))
        have HB1 := Lib.hid B1
        obtain ⟨c0, c1, c2, d0, d1, d2⟩ := K1
        obtain ⟨⟨r0, r1, r2⟩, f0, f1, f2⟩ := Z1.facts
        clear hb1 Z1 B1
        go_wp2
        refine bodyPost_ret (v := .tuple #[.agg #[.int .i64 0, .int .i64 0, .string ⟨#[]⟩], .int .i64 3]) (by simp [results, Tryd.results39, go_sem, r0, r1, r2]) rfl ?_
        refine ⟨rfl, ?_⟩
        repeat (first | exact HB1.out | refine below_store ?_ (by omega) _)
      · rw [if_neg hl, if_neg hl]
        have hd : decide ((s.size : Int) > 64 - (s'.size : Int)) = false := decide_eq_false (by omega)
        clear hl
        go_enter Tryd.func39, Tryd.ntmps39
        go_wp2_with fail
        refine (HC.out _).mono ?_
        rintro e w1 ⟨rfl, hb1⟩
        obtain ⟨K1, Z1, B1, hz1⟩ := HT.out w1 (hb1.mono (by simp))
        have HB1 := Lib.hid B1
        obtain ⟨c0, c1, c2, d0, d1, d2⟩ := K1
        obtain ⟨⟨r0, r1, r2⟩, f0, f1, f2⟩ := Z1.facts
        clear hb1 Z1 B1
        go_wp2
        refine bodyPost_ret (v := .tuple #[.agg #[.int .i64 2, .int .i64 0, .string (s ++ s')], .int .i64 0]) (by simp [results, Tryd.results39, go_sem, r0, r1, r2]) rfl ?_
        refine ⟨rfl, ?_⟩
        repeat (first | exact HB1.out | refine below_store ?_ (by omega) _)
    · obtain ⟨hv, he⟩ := join_null hz hk
      rw [hv, he]
      rw [hz] at HC
      clear hv he hz
      obtain ⟨k, n, s⟩ := a
      obtain ⟨k', n', s'⟩ := b
      simp only at HC HT hk ⊢
      cases hka : (k == 0)
      · rw [hka, Bool.false_or] at hk
        go_enter Tryd.func39, Tryd.ntmps39
        go_wp2_with fail
        refine (HC.out _).mono ?_
        rintro e w1 ⟨rfl, hb1⟩
        obtain ⟨K1, Z1, B1, hz1⟩ := HT.out w1 (hb1.mono (by simp))
        have HB1 := Lib.hid B1
        obtain ⟨c0, c1, c2, d0, d1, d2⟩ := K1
        obtain ⟨⟨r0, r1, r2⟩, f0, f1, f2⟩ := Z1.facts
        clear hb1 Z1 B1
        go_wp2
        refine bodyPost_ret (v := .tuple #[.agg #[.int .i64 0, .int .i64 0, .string ⟨#[]⟩], .int .i64 0]) (by simp [results, Tryd.results39, go_sem, r0, r1, r2]) rfl ?_
        refine ⟨rfl, ?_⟩
        repeat (first | exact HB1.out | refine below_store ?_ (by omega) _)
      · clear hk
        go_enter Tryd.func39, Tryd.ntmps39
        go_wp2_with fail
        refine (HC.out _).mono ?_
        rintro e w1 ⟨rfl, hb1⟩
        obtain ⟨K1, Z1, B1, hz1⟩ := HT.out w1 (hb1.mono (by simp))
        have HB1 := Lib.hid B1
        obtain ⟨c0, c1, c2, d0, d1, d2⟩ := K1
        obtain ⟨⟨r0, r1, r2⟩, f0, f1, f2⟩ := Z1.facts
        clear hb1 Z1 B1
        go_wp2
        refine bodyPost_ret (v := .tuple #[.agg #[.int .i64 0, .int .i64 0, .string ⟨#[]⟩], .int .i64 0]) (by simp [results, Tryd.results39, go_sem, r0, r1, r2]) rfl ?_
        refine ⟨rfl, ?_⟩
        repeat (first | exact HB1.out | refine below_store ?_ (by omega) _)
  · obtain ⟨hv, he⟩ := join_bad hz
    rw [hv, he]
    have hne : (want 2 [a, b] != 0) = true := by simpa using hz
    clear hv he hz
    generalize want 2 [a, b] = ww at HC hne ⊢
    obtain ⟨k, n, s⟩ := a
    obtain ⟨k', n', s'⟩ := b
    simp only at HC HT ⊢
    go_enter Tryd.func39, Tryd.ntmps39
    go_wp2_with fail
    refine (HC.out _).mono ?_
    rintro e w1 ⟨rfl, hb1⟩
    obtain ⟨K1, Z1, B1, hz1⟩ := HT.out w1 (hb1.mono (by simp))
    have HB1 := Lib.hid B1
    obtain ⟨c0, c1, c2, d0, d1, d2⟩ := K1
    obtain ⟨⟨r0, r1, r2⟩, f0, f1, f2⟩ := Z1.facts
    clear hb1 Z1 B1
    go_wp2
    refine bodyPost_ret (v := .tuple #[.agg #[.int .i64 0, .int .i64 0, .string ⟨#[]⟩], .int .i64 ww]) (by simp [results, Tryd.results39, go_sem, r0, r1, r2]) rfl ?_
    refine ⟨rfl, ?_⟩
    repeat (first | exact HB1.out | refine below_store ?_ (by omega) _)
end Go.Proofs.YtjfpkjpicalfmaaDoor
