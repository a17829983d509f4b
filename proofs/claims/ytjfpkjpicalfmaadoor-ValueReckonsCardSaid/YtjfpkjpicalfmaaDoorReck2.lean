/-
  THE WALK OF the document's Reckon, number 2.
-/
import Derived.Test.YtjfpkjpicalfmaaDoorReckM
namespace Go.Proofs.YtjfpkjpicalfmaaDoor
open Go.RowKit Go.Sort
attribute [local go_sem high] run_eq23 run_neq23 run_eq9

set_option maxRecDepth 100000 in
set_option maxHeartbeats 2000000 in
theorem reckon2 (a b : V) (ha : In64 a.n) (hb : In64 b.n) (hsa : a.s.size ≤ 9223372036854775807) (hsb : b.s.size ≤ 9223372036854775807) (w : World) :
    Calls Tryd.prog 35 #[.int .i64 2, .agg #[.int .i64 a.k, .int .i64 a.n, .string a.s], .agg #[.int .i64 b.k, .int .i64 b.n, .string b.s]] w fun e w' =>
      e = .returned (.tuple #[.agg #[.int .i64 (reckV 2 a b).k, .int .i64 (reckV 2 a b).n, .string (reckV 2 a b).s], .int .i64 (reckE 2 a b)]) ∧ Below w.heap.size w w' := by
  have HC := Lib.hid (rfit_any 1 a b hsa hsb)
  have HT := Lib.hid (fun (w' : World) (h : Below (w.heap.size + 3) (M3 w a b) w') => three_boxes h (Nat.le_refl _))
  clear hsa hsb
  by_cases hz : want 1 [a, b] = 0
  · cases hk : (a.k == 0 || b.k == 0)
    · rw [Bool.or_eq_false_iff] at hk
      obtain ⟨hka, hkb⟩ := hk
      obtain ⟨hv, he⟩ := reck_full (i := 2) hz (by rw [hka, hkb]; rfl)
      rw [hv, he]
      rw [hz] at HC
      clear hv he hz
      have HX := Lib.hid (exact2 a.n b.n ha hb)
      by_cases hin : In64 (opI 2 a.n b.n)
      · obtain ⟨h1, h2⟩ := calc_ok (Or.inl (by omega)) hin
        rw [h1, h2, if_pos rfl]
        clear h1 h2 ha hb
        unfold Exact at HX
        rw [decide_eq_true hin] at HX
        obtain ⟨k, n, s⟩ := a
        obtain ⟨k', n', s'⟩ := b
        simp only at HC HT hka hkb HX hin ⊢
        generalize opI 2 n n' = z at HX hin ⊢
        have HIN := Lib.hid hin
        clear hin
        go_enter Tryd.func35, Tryd.ntmps35
        go_wp2_with fail
        refine (HC.out _).mono ?_
        rintro e w1 ⟨rfl, hb1⟩
        obtain ⟨K1, Z1, B1, hz1⟩ := HT.out w1 (hb1.mono (by simp))
        have HB1 := Lib.hid B1
        obtain ⟨c0, c1, c2, d0, d1, d2⟩ := K1
        have HZ1 := Lib.hid Z1
        clear hb1 B1 Z1 HT HC
        go_wp2_with fail
        refine (HX.out _).mono ?_
        rintro e w2 ⟨nn, rfl, hnn, hb2⟩
        have hz2 := hb2.size
        have HB2 := Lib.hid (below_trans HB1.out hb2)
        obtain ⟨⟨r0, r1, r2⟩, f0, f1, f2⟩ := (HZ1.out.below hb2 HZ1.out.lt).facts
        clear hb2 HZ1 c0 c1 c2 d0 d1 d2
        obtain rfl := (hnn HIN.out).symm
        go_wp2
        refine bodyPost_ret (v := .tuple #[.agg #[.int .i64 1, .int .i64 z, .string ⟨#[]⟩], .int .i64 0]) (by simp [results, Tryd.results35, go_sem, r0, r1, r2]) rfl ?_
        refine ⟨rfl, ?_⟩
        repeat (first | exact HB2.out | refine below_store ?_ (by omega) _)
      · rw [calc_no (Or.inl (by omega)) hin, if_neg (by decide)]
        clear ha hb
        unfold Exact at HX
        rw [decide_eq_false hin] at HX
        clear hin
        obtain ⟨k, n, s⟩ := a
        obtain ⟨k', n', s'⟩ := b
        simp only at HC HT hka hkb HX ⊢
        go_enter Tryd.func35, Tryd.ntmps35
        go_wp2_with fail
        refine (HC.out _).mono ?_
        rintro e w1 ⟨rfl, hb1⟩
        obtain ⟨K1, Z1, B1, hz1⟩ := HT.out w1 (hb1.mono (by simp))
        have HB1 := Lib.hid B1
        obtain ⟨c0, c1, c2, d0, d1, d2⟩ := K1
        have HZ1 := Lib.hid Z1
        clear hb1 B1 Z1 HT HC
        go_wp2_with fail
        refine (HX.out _).mono ?_
        rintro e w2 ⟨nn, rfl, hnn, hb2⟩
        have hz2 := hb2.size
        have HB2 := Lib.hid (below_trans HB1.out hb2)
        obtain ⟨⟨r0, r1, r2⟩, f0, f1, f2⟩ := (HZ1.out.below hb2 HZ1.out.lt).facts
        clear hb2 HZ1 c0 c1 c2 d0 d1 d2
        clear hnn
        go_wp2
        refine bodyPost_ret (v := .tuple #[.agg #[.int .i64 0, .int .i64 0, .string ⟨#[]⟩], .int .i64 31]) (by simp [results, Tryd.results35, go_sem, r0, r1, r2]) rfl ?_
        refine ⟨rfl, ?_⟩
        repeat (first | exact HB2.out | refine below_store ?_ (by omega) _)
    · obtain ⟨hv, he⟩ := reck_null (i := 2) hz hk
      rw [hv, he]
      rw [hz] at HC
      clear hv he hz ha hb
      obtain ⟨k, n, s⟩ := a
      obtain ⟨k', n', s'⟩ := b
      simp only at HC HT hk ⊢
      cases hka : (k == 0)
      · rw [hka, Bool.false_or] at hk
        go_enter Tryd.func35, Tryd.ntmps35
        go_wp2_with fail
        refine (HC.out _).mono ?_
        rintro e w1 ⟨rfl, hb1⟩
        obtain ⟨K1, Z1, B1, hz1⟩ := HT.out w1 (hb1.mono (by simp))
        have HB1 := Lib.hid B1
        obtain ⟨c0, c1, c2, d0, d1, d2⟩ := K1
        obtain ⟨⟨r0, r1, r2⟩, f0, f1, f2⟩ := Z1.facts
        clear hb1 Z1 B1
        go_wp2
        refine bodyPost_ret (v := .tuple #[.agg #[.int .i64 0, .int .i64 0, .string ⟨#[]⟩], .int .i64 0]) (by simp [results, Tryd.results35, go_sem, r0, r1, r2]) rfl ?_
        refine ⟨rfl, ?_⟩
        repeat (first | exact HB1.out | refine below_store ?_ (by omega) _)
      · clear hk
        go_enter Tryd.func35, Tryd.ntmps35
        go_wp2_with fail
        refine (HC.out _).mono ?_
        rintro e w1 ⟨rfl, hb1⟩
        obtain ⟨K1, Z1, B1, hz1⟩ := HT.out w1 (hb1.mono (by simp))
        have HB1 := Lib.hid B1
        obtain ⟨c0, c1, c2, d0, d1, d2⟩ := K1
        obtain ⟨⟨r0, r1, r2⟩, f0, f1, f2⟩ := Z1.facts
        clear hb1 Z1 B1
        go_wp2
        refine bodyPost_ret (v := .tuple #[.agg #[.int .i64 0, .int .i64 0, .string ⟨#[]⟩], .int .i64 0]) (by simp [results, Tryd.results35, go_sem, r0, r1, r2]) rfl ?_
        refine ⟨rfl, ?_⟩
        repeat (first | exact HB1.out | refine below_store ?_ (by omega) _)
  · obtain ⟨hv, he⟩ := reck_bad (i := 2) hz
    rw [hv, he]
    have hne : (want 1 [a, b] != 0) = true := by simpa using hz
    clear hv he hz ha hb
    generalize want 1 [a, b] = ww at HC hne ⊢
    obtain ⟨k, n, s⟩ := a
    obtain ⟨k', n', s'⟩ := b
    simp only at HC HT  ⊢
    go_enter Tryd.func35, Tryd.ntmps35
    go_wp2_with fail
    refine (HC.out _).mono ?_
    rintro e w1 ⟨rfl, hb1⟩
    obtain ⟨K1, Z1, B1, hz1⟩ := HT.out w1 (hb1.mono (by simp))
    have HB1 := Lib.hid B1
    obtain ⟨c0, c1, c2, d0, d1, d2⟩ := K1
    obtain ⟨⟨r0, r1, r2⟩, f0, f1, f2⟩ := Z1.facts
    clear hb1 Z1 B1
    go_wp2
    refine bodyPost_ret (v := .tuple #[.agg #[.int .i64 0, .int .i64 0, .string ⟨#[]⟩], .int .i64 ww]) (by simp [results, Tryd.results35, go_sem, r0, r1, r2]) rfl ?_
    refine ⟨rfl, ?_⟩
    repeat (first | exact HB1.out | refine below_store ?_ (by omega) _)
end Go.Proofs.YtjfpkjpicalfmaaDoor
