/-
  THE WALKS OF And, Or, Not; of the document's And, Or, Not.
-/
import Derived.Test.YtjfpkjpicalfmaaDoorWalkK
namespace Go.Proofs.YtjfpkjpicalfmaaDoor
open Go.RowKit Go.Sort
attribute [local go_sem high] run_eq23 run_neq23 run_eq9

set_option maxHeartbeats 1000000 in
theorem and_any (a b : V) (hsa : a.s.size ≤ 9223372036854775807) (hsb : b.s.size ≤ 9223372036854775807) (w : World) :
    Calls Tryd.prog 24 #[.agg #[.int .i64 a.k, .int .i64 a.n, .string a.s], .agg #[.int .i64 b.k, .int .i64 b.n, .string b.s]] w fun e w' =>
      e = .returned (.tuple #[.agg #[.int .i64 (decV false a b).k, .int .i64 (decV false a b).n, .string (decV false a b).s], .int .i64 (want 3 [a, b])]) ∧ Below w.heap.size w w' := by
  have HC := Lib.hid (decided_any a b false hsa hsb)
  have HT := Lib.hid (fun (w' : World) (h : Below (w.heap.size + 3) (M3 w a b) w') => three_boxes h (Nat.le_refl _))
  clear hsa hsb
  generalize decV false a b = hv at HC ⊢
  generalize want 3 [a, b] = he at HC ⊢
  obtain ⟨k, n, s⟩ := a
  obtain ⟨k', n', s'⟩ := b
  obtain ⟨vk, vn, vs⟩ := hv
  simp only at HC HT ⊢
  go_enter Tryd.func24, Tryd.ntmps24
  go_wp2_with fail
  refine (HC.out _).mono ?_
  rintro e w4 ⟨rfl, hb4⟩
  obtain ⟨K4, Z4, B4, hz4⟩ := HT.out w4 (hb4.mono (by simp))
  obtain ⟨⟨r0, r1, r2⟩, f0, f1, f2⟩ := Z4.facts
  have HB4 := Lib.hid B4
  clear hb4 K4 Z4 B4
  go_wp2
  refine bodyPost_ret (v := .tuple #[.agg #[.int .i64 vk, .int .i64 vn, .string vs], .int .i64 he]) (by simp [results, Tryd.results24, go_sem, r0, r1, r2]) rfl ?_
  refine ⟨rfl, ?_⟩
  repeat (first | exact HB4.out | refine below_store ?_ (by omega) _)
set_option maxHeartbeats 1000000 in
theorem or_any (a b : V) (hsa : a.s.size ≤ 9223372036854775807) (hsb : b.s.size ≤ 9223372036854775807) (w : World) :
    Calls Tryd.prog 26 #[.agg #[.int .i64 a.k, .int .i64 a.n, .string a.s], .agg #[.int .i64 b.k, .int .i64 b.n, .string b.s]] w fun e w' =>
      e = .returned (.tuple #[.agg #[.int .i64 (decV true a b).k, .int .i64 (decV true a b).n, .string (decV true a b).s], .int .i64 (want 3 [a, b])]) ∧ Below w.heap.size w w' := by
  have HC := Lib.hid (decided_any a b true hsa hsb)
  have HT := Lib.hid (fun (w' : World) (h : Below (w.heap.size + 3) (M3 w a b) w') => three_boxes h (Nat.le_refl _))
  clear hsa hsb
  generalize decV true a b = hv at HC ⊢
  generalize want 3 [a, b] = he at HC ⊢
  obtain ⟨k, n, s⟩ := a
  obtain ⟨k', n', s'⟩ := b
  obtain ⟨vk, vn, vs⟩ := hv
  simp only at HC HT ⊢
  go_enter Tryd.func26, Tryd.ntmps26
  go_wp2_with fail
  refine (HC.out _).mono ?_
  rintro e w4 ⟨rfl, hb4⟩
  obtain ⟨K4, Z4, B4, hz4⟩ := HT.out w4 (hb4.mono (by simp))
  obtain ⟨⟨r0, r1, r2⟩, f0, f1, f2⟩ := Z4.facts
  have HB4 := Lib.hid B4
  clear hb4 K4 Z4 B4
  go_wp2
  refine bodyPost_ret (v := .tuple #[.agg #[.int .i64 vk, .int .i64 vn, .string vs], .int .i64 he]) (by simp [results, Tryd.results26, go_sem, r0, r1, r2]) rfl ?_
  refine ⟨rfl, ?_⟩
  repeat (first | exact HB4.out | refine below_store ?_ (by omega) _)

/-- the boxes of one argument and of the result -/
def N2 (w : World) (a : V) : World := (w.alloc (.cells #[.int .i64 a.k, .int .i64 a.n, .string a.s] 23)).alloc (.cells #[.int .i64 0, .int .i64 0, .string ⟨#[]⟩] 23)
theorem one_box {w w' : World} {a : V} {B : Nat} (h : Below B (N2 w a) w') (hB : w.heap.size + 2 ≤ B) :
    (w'.cell? ⟨w.heap.size, 0, none⟩ = some (.int .i64 a.k) ∧ w'.cell? ⟨w.heap.size, 1, none⟩ = some (.int .i64 a.n) ∧ w'.cell? ⟨w.heap.size, 2, none⟩ = some (.string a.s)) ∧ Zero w' (w.heap.size + 1) ∧ Below w.heap.size w w' ∧ w.heap.size + 1 < w'.heap.size := by
  obtain ⟨c0, c1, c2⟩ := ((Box.new w a.k a.n a.s).alloc (.cells #[.int .i64 0, .int .i64 0, .string ⟨#[]⟩] 23)).below h (by omega)
  have hz : Zero w' (w.heap.size + 1) := by
    have := (Zero.new (w.alloc (.cells #[.int .i64 a.k, .int .i64 a.n, .string a.s] 23))).below h (by simp; omega)
    simpa using this
  exact ⟨⟨c0, c1, c2⟩, hz, (below_two w _ _ 0).trans (h.mono (by omega)), hz.lt⟩

def notV (a : V) : V := if want 3 [a] = 0 then (if a.isNull then ⟨0, 0, ⟨#[]⟩⟩ else ⟨3, bit (a.is ⟨3, 0, ⟨#[]⟩⟩), ⟨#[]⟩⟩) else ⟨0, 0, ⟨#[]⟩⟩

set_option maxRecDepth 100000 in
set_option maxHeartbeats 1000000 in
theorem not_any (a : V) (hsa : a.s.size ≤ 9223372036854775807) (w : World) :
    Calls Tryd.prog 28 #[.agg #[.int .i64 a.k, .int .i64 a.n, .string a.s]] w fun e w' =>
      e = .returned (.tuple #[.agg #[.int .i64 (notV a).k, .int .i64 (notV a).n, .string (notV a).s], .int .i64 (want 3 [a])]) ∧ Below w.heap.size w w' := by
  have HV := Vs.one (N2 w a) a
  have HC := Lib.hid (wanted_any 3 _ [a] 1 _ HV (by simp) rfl (by omega) (by simp; exact hsa))
  have HN := Lib.hid (isNull_any a.k a.n a.s)
  have HT := Lib.hid (fun (w' : World) (h : Below (w.heap.size + 2) (N2 w a) w') => one_box h (Nat.le_refl _))
  clear HV hsa
  unfold N2 at HC
  simp only [World.size_alloc, Nat.add_assoc, Nat.reduceAdd] at HC
  have HV1 : Hid (notV a = if want 3 [a] = 0 then (if a.isNull then ⟨0, 0, ⟨#[]⟩⟩ else ⟨3, bit (a.is ⟨3, 0, ⟨#[]⟩⟩), ⟨#[]⟩⟩) else ⟨0, 0, ⟨#[]⟩⟩) := rfl
  have en : a.isNull = veq a.k a.n a.s 0 0 ⟨#[]⟩ := rfl
  have ei : a.is ⟨3, 0, ⟨#[]⟩⟩ = veq a.k a.n a.s 3 (bit false) ⟨#[]⟩ := rfl
  rw [en, ei] at HV1
  clear en ei
  generalize hww : want 3 [a] = ww at HC HV1 ⊢
  clear hww
  obtain ⟨k, n, s⟩ := a
  simp only at HC HN HT HV1 ⊢
  go_enter Tryd.func28, Tryd.ntmps28
  go_wp2_with fail
  refine HC.out.mono ?_
  rintro e w1 ⟨rfl, hb1⟩
  obtain ⟨⟨c0, c1, c2⟩, Z1, B1, hz1⟩ := HT.out w1 ((((Below.refl _ _).alloc (by simp [N2]) _)).trans (hb1.mono (by simp)))
  have HZ1 := Lib.hid Z1
  have HB1 := Lib.hid B1
  clear hb1 Z1 B1 HT HC
  by_cases hww : ww = 0
  · have hne : (ww != 0) = false := by simpa using hww
    have HV2 : Hid (notV ⟨k, n, s⟩ = if veq k n s 0 0 ⟨#[]⟩ then ⟨0, 0, ⟨#[]⟩⟩ else ⟨3, bit (veq k n s 3 (bit false) ⟨#[]⟩), ⟨#[]⟩⟩) := by
      show notV ⟨k, n, s⟩ = _
      rw [HV1.out, if_pos hww]
    have HW := Lib.hid hww
    clear hww HV1
    go_wp2_with fail
    refine (HN.out _).mono ?_
    rintro e w2 ⟨rfl, hb2⟩
    obtain ⟨hc2, hf2⟩ := bcell hb2
    have hz2 := hb2.size
    have g0 := (hc2 _ 0 (by omega)).trans c0
    have g1 := (hc2 _ 1 (by omega)).trans c1
    have g2 := (hc2 _ 2 (by omega)).trans c2
    have HB2 := Lib.hid (below_trans HB1.out hb2)
    have Z2 := HZ1.out.below hb2 HZ1.out.lt
    have HZ2 := Lib.hid Z2
    obtain ⟨⟨r0, r1, r2⟩, f0, f1, f2⟩ := Z2.facts
    clear hb2 Z2 hc2 hf2 c0 c1 c2
    cases hv : veq k n s 0 0 ⟨#[]⟩
    · have HVV : Hid (notV ⟨k, n, s⟩ = ⟨3, bit (veq k n s 3 (bit false) ⟨#[]⟩), ⟨#[]⟩⟩) := by
        show notV ⟨k, n, s⟩ = _
        rw [HV2.out, hv]; rfl
      clear hv r0 r1 r2 f0 f1 f2
      go_wp2_with fail
      go_region_held3 (fun w' => w'.cell? ⟨w.heap.size, 0, none⟩ = some (.int .i64 k) ∧ w'.cell? ⟨w.heap.size, 1, none⟩ = some (.int .i64 n) ∧ w'.cell? ⟨w.heap.size, 2, none⟩ = some (.string s))
        (first | exact And.intro (st3 K6.1 (by omega)) (And.intro (st3 K6.2.1 (by omega)) (st3 K6.2.2 (by omega))) | exact K6 | exact K4 | go_keep)
        (first
          | (go_at_call_of 51 (Value.bool false); refine (ofBool_any _ _).mono ?_; rintro e w4 ⟨rfl, hb4⟩; have hb4 : Below w2.heap.size w2 w4 := ⟨hb4.os, hb4.tape, hb4.output, hb4.size, hb4.block⟩; obtain ⟨hc4, hf4⟩ := bcell hb4; have hz4 := hb4.size; have K4 := And.intro ((hc4 _ 0 (by omega)).trans g0) (And.intro ((hc4 _ 1 (by omega)).trans g1) ((hc4 _ 2 (by omega)).trans g2)); have Z4 := Lib.hid (HZ2.out.below hb4 HZ2.out.lt); have B4 := Lib.hid (below_trans HB2.out hb4); clear hb4 hc4 hf4)
          | (go_at_call_of 51 (Value.bool (veq k n s 3 (bit false) ⟨#[]⟩)); refine (ofBool_any _ _).mono ?_; rintro e w6 ⟨rfl, hb6⟩; obtain ⟨hc6, hf6⟩ := bcell hb6; have hz6 := hb6.size; have K6 := And.intro ((hc6 _ 0 (by omega)).trans K4.1) (And.intro ((hc6 _ 1 (by omega)).trans K4.2.1) ((hc6 _ 2 (by omega)).trans K4.2.2)); have Z6 := Lib.hid (Z4.out.below hb6 Z4.out.lt); have B6 := Lib.hid (below_trans B4.out hb6); clear hb6 hc6 hf6; obtain ⟨⟨r0, r1, r2⟩, f0, f1, f2⟩ := Z6.out.facts))
      go_wp2
      refine bodyPost_ret (v := .tuple #[.agg #[.int .i64 3, .int .i64 (bit (veq k n s 3 (bit false) ⟨#[]⟩)), .string ⟨#[]⟩], .int .i64 ww]) (by simp [results, Tryd.results28, go_sem, r0, r1, r2, HW.out]) rfl ?_
      refine ⟨by rw [HVV.out], ?_⟩
      repeat (first | exact B6.out | refine below_store ?_ (by omega) _)
    · have HVV : Hid (notV ⟨k, n, s⟩ = ⟨0, 0, ⟨#[]⟩⟩) := by
        show notV ⟨k, n, s⟩ = _
        rw [HV2.out, hv]; rfl
      clear hv
      go_wp2
      refine bodyPost_ret (v := .tuple #[.agg #[.int .i64 0, .int .i64 0, .string ⟨#[]⟩], .int .i64 ww]) (by simp [results, Tryd.results28, go_sem, r0, r1, r2, HW.out]) rfl ?_
      refine ⟨by rw [HVV.out], ?_⟩
      repeat (first | exact HB2.out | refine below_store ?_ (by omega) _)
  · have hne : (ww != 0) = true := by simpa using hww
    have HVV : Hid (notV ⟨k, n, s⟩ = ⟨0, 0, ⟨#[]⟩⟩) := by
      show notV ⟨k, n, s⟩ = _
      rw [HV1.out, if_neg hww]
    obtain ⟨⟨r0, r1, r2⟩, f0, f1, f2⟩ := HZ1.out.facts
    clear hww
    go_wp2
    refine bodyPost_ret (v := .tuple #[.agg #[.int .i64 0, .int .i64 0, .string ⟨#[]⟩], .int .i64 ww]) (by simp [results, Tryd.results28, go_sem, r0, r1, r2]) rfl ?_
    refine ⟨by rw [HVV.out], ?_⟩
    repeat (first | exact HB1.out | refine below_store ?_ (by omega) _)
end Go.Proofs.YtjfpkjpicalfmaaDoor
