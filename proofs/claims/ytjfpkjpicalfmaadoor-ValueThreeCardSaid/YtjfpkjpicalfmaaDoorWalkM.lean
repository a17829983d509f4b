/-
  THE WALKS OF the document's And, Or, Not.
-/
import Derived.Test.YtjfpkjpicalfmaaDoorWalkL
namespace Go.Proofs.YtjfpkjpicalfmaaDoor
open Go.RowKit Go.Sort
attribute [local go_sem high] run_eq23 run_neq23 run_eq9

/-- of a truth 0 (false), 1 (Null), 2 (true) -/
def partI (v : V) : Int := if v.k = 0 then 1 else 2 * v.n
def wholeV (m : Int) : V := if m = 1 then ⟨0, 0, ⟨#[]⟩⟩ else ⟨3, bit (m == 2), ⟨#[]⟩⟩
theorem part_any (v : V) (h1 : -1000 ≤ v.n) (h2 : v.n ≤ 1000) (w : World) :
    Calls Tryd.prog 64 #[.agg #[.int .i64 v.k, .int .i64 v.n, .string v.s]] w fun e w' => e = .returned (.int .i64 (partI v)) ∧ Below w.heap.size w w' := by
  obtain ⟨k, n, s⟩ := v
  simp only at h1 h2 ⊢
  by_cases hk : k = 0
  · have hv : partI ⟨k, n, s⟩ = 1 := if_pos hk
    have e : (k == 0) = true := by simpa using hk
    rw [hv]
    clear hk hv
    go_enter Tryd.func64, Tryd.ntmps64
    go_wp2
    go_ret
    exact ⟨rfl, (Below.refl _ _).alloc (Nat.le_refl _) _⟩
  · have hv : partI ⟨k, n, s⟩ = 2 * n := if_neg hk
    have e : (k == 0) = false := by simpa using hk
    rw [hv]
    clear hk hv
    go_enter Tryd.func64, Tryd.ntmps64
    go_wp2
    go_ret
    exact ⟨rfl, (Below.refl _ _).alloc (Nat.le_refl _) _⟩
theorem whole_any (m : Int) (w : World) :
    Calls Tryd.prog 63 #[.int .i64 m] w fun e w' => e = .returned (.agg #[.int .i64 (wholeV m).k, .int .i64 (wholeV m).n, .string (wholeV m).s]) ∧ Below w.heap.size w w' := by
  by_cases hm : m = 1
  · have hv : wholeV m = ⟨0, 0, ⟨#[]⟩⟩ := if_pos hm
    rw [hv]
    have e : (m == 1) = true := by simpa using hm
    clear hm hv
    go_enter Tryd.func63, Tryd.ntmps63
    go_wp2
    refine bodyPost_ret (v := .agg #[.int .i64 0, .int .i64 0, .string ⟨#[]⟩]) (by simp [results, Tryd.results63, go_sem]) rfl ⟨rfl, ?_⟩
    repeat (first | exact Below.refl _ _ | refine below_store ?_ (by omega) _ | refine Below.alloc ?_ (Nat.le_refl _) _)
  · have hv : wholeV m = ⟨3, bit (m == 2), ⟨#[]⟩⟩ := if_neg hm
    rw [hv]
    have e : (m == 1) = false := by simpa using hm
    clear hm hv
    generalize hq : (m == 2) = q
    go_enter Tryd.func63, Tryd.ntmps63
    go_wp2_with fail
    refine (truth_any _ _).mono ?_
    rintro e w1 ⟨rfl, hb1⟩
    have hz1 := hb1.size
    simp only [World.size_alloc] at hz1
    have Z1 := (Zero.new w).below hb1 (by simp)
    have HB1 := Lib.hid (((Below.refl w.heap.size w).alloc (Nat.le_refl _) (.cells #[.int .i64 0, .int .i64 0, .string ⟨#[]⟩] 23)).trans (hb1.mono (by simp)))
    obtain ⟨⟨r0, r1, r2⟩, f0, f1, f2⟩ := Z1.facts
    clear hb1 Z1
    go_wp2
    refine bodyPost_ret (v := .agg #[.int .i64 3, .int .i64 (bit q), .string ⟨#[]⟩]) (by simp [results, Tryd.results63, go_sem, r0, r1, r2]) rfl ⟨rfl, ?_⟩
    repeat (first | exact HB1.out | refine below_store ?_ (by omega) _)

/-- a truth that may be is one of three -/
theorem truth_three {v : V} (h : v.may = true) (hf : fits 3 v = true) : v = ⟨0, 0, ⟨#[]⟩⟩ ∨ v = ⟨3, 0, ⟨#[]⟩⟩ ∨ v = ⟨3, 1, ⟨#[]⟩⟩ := by
  rw [fits_eq 3 h] at hf
  obtain ⟨k, n, s⟩ := v
  have h : may k n s = true := h
  simp at hf
  rcases hf with rfl | rfl
  · simp [may, seq_eq] at h
    rcases h with ⟨rfl, rfl | rfl⟩ <;> simp
  · simp [may, seq_eq] at h
    rcases h with ⟨rfl, rfl⟩
    simp
theorem want_two {a b : V} (h : want 3 [a, b] = 0) : (a = ⟨0, 0, ⟨#[]⟩⟩ ∨ a = ⟨3, 0, ⟨#[]⟩⟩ ∨ a = ⟨3, 1, ⟨#[]⟩⟩) ∧ (b = ⟨0, 0, ⟨#[]⟩⟩ ∨ b = ⟨3, 0, ⟨#[]⟩⟩ ∨ b = ⟨3, 1, ⟨#[]⟩⟩) := by
  unfold want at h
  split at h
  · rename_i hm
    split at h
    · rename_i hf
      simp at hm hf
      exact ⟨truth_three hm.1 hf.1, truth_three hm.2 hf.2⟩
    · cases h
  · cases h
theorem and_whole {a b : V} (h : want 3 [a, b] = 0) : decV false a b = wholeV (min (partI a) (partI b)) := by
  unfold decV
  rw [if_pos h]
  obtain ⟨ha, hb⟩ := want_two h
  clear h
  rcases ha with rfl | rfl | rfl <;> rcases hb with rfl | rfl | rfl <;> simp [V.is, V.isNull, veq, seq_refl, bit, partI, wholeV, Int.min_def]
theorem or_whole {a b : V} (h : want 3 [a, b] = 0) : decV true a b = wholeV (max (partI a) (partI b)) := by
  unfold decV
  rw [if_pos h]
  obtain ⟨ha, hb⟩ := want_two h
  clear h
  rcases ha with rfl | rfl | rfl <;> rcases hb with rfl | rfl | rfl <;> simp [V.is, V.isNull, veq, seq_refl, bit, partI, wholeV, Int.max_def]
theorem dec_zero {d : Bool} {a b : V} (h : want 3 [a, b] ≠ 0) : decV d a b = ⟨0, 0, ⟨#[]⟩⟩ := by
  unfold decV; rw [if_neg h]
theorem bound_n {a b : V} (h : want 3 [a, b] = 0) : (-1000 ≤ a.n ∧ a.n ≤ 1000) ∧ (-1000 ≤ b.n ∧ b.n ≤ 1000) := by
  obtain ⟨ha, hb⟩ := want_two h
  constructor
  · rcases ha with rfl | rfl | rfl <;> simp
  · rcases hb with rfl | rfl | rfl <;> simp

set_option maxRecDepth 100000 in
set_option maxHeartbeats 1000000 in
theorem rand_any (a b : V) (hsa : a.s.size ≤ 9223372036854775807) (hsb : b.s.size ≤ 9223372036854775807) (w : World) :
    Calls Tryd.prog 25 #[.agg #[.int .i64 a.k, .int .i64 a.n, .string a.s], .agg #[.int .i64 b.k, .int .i64 b.n, .string b.s]] w fun e w' =>
      e = .returned (.tuple #[.agg #[.int .i64 (decV false a b).k, .int .i64 (decV false a b).n, .string (decV false a b).s], .int .i64 (want 3 [a, b])]) ∧ Below w.heap.size w w' := by
  have HC := Lib.hid (rfit_any 3 a b hsa hsb)
  have HT := Lib.hid (fun (w' : World) (h : Below (w.heap.size + 3) (M3 w a b) w') => three_boxes h (Nat.le_refl _))
  clear hsa hsb
  by_cases hz : want 3 [a, b] = 0
  · have hv : decV false a b = wholeV (min (partI a) (partI b)) := and_whole hz
    have hbd := bound_n hz
    have HP := Lib.hid (part_any a hbd.1.1 hbd.1.2)
    have HQ := Lib.hid (part_any b hbd.2.1 hbd.2.2)
    have hne : (want 3 [a, b] != 0) = false := by simpa using hz
    have HW := Lib.hid hz
    rw [hv]
    clear hv hbd hz
    generalize want 3 [a, b] = ww at HC hne HW ⊢
    generalize partI a = pa at HP ⊢
    generalize partI b = pb at HQ ⊢
    obtain ⟨k, n, s⟩ := a
    obtain ⟨k', n', s'⟩ := b
    simp only at HC HT HP HQ ⊢
    go_enter Tryd.func25, Tryd.ntmps25
    go_wp2_with fail
    refine (HC.out _).mono ?_
    rintro e w1 ⟨rfl, hb1⟩
    obtain ⟨K1, Z1, B1, hz1⟩ := HT.out w1 (hb1.mono (by simp))
    have HZ1 := Lib.hid Z1
    have HB1 := Lib.hid B1
    unfold Boxes at K1
    obtain ⟨c0, c1, c2, d0, d1, d2⟩ := K1
    clear hb1 Z1 B1 HT HC
    go_wp2_with fail
    go_region_held3 (fun w' => w'.cell? ⟨w.heap.size, 0, none⟩ = some (.int .i64 k) ∧ w'.cell? ⟨w.heap.size, 1, none⟩ = some (.int .i64 n) ∧ w'.cell? ⟨w.heap.size, 2, none⟩ = some (.string s) ∧
        w'.cell? ⟨w.heap.size + 1, 0, none⟩ = some (.int .i64 k') ∧ w'.cell? ⟨w.heap.size + 1, 1, none⟩ = some (.int .i64 n') ∧ w'.cell? ⟨w.heap.size + 1, 2, none⟩ = some (.string s'))
      (first | exact K6 | exact K5 | exact K4 | exact And.intro (st3 K6.1 (by omega)) (And.intro (st3 K6.2.1 (by omega)) (And.intro (st3 K6.2.2.1 (by omega)) (And.intro (st3 K6.2.2.2.1 (by omega)) (And.intro (st3 K6.2.2.2.2.1 (by omega)) (st3 K6.2.2.2.2.2 (by omega)))))) | go_keep)
      (first
        | (go_at_call_of 64 (Value.agg #[Value.int IntKind.i64 k, Value.int IntKind.i64 n, Value.string s]); refine (HP.out _).mono ?_; rintro e w4 ⟨rfl, hb4⟩; have hb4 : Below w1.heap.size w1 w4 := ⟨hb4.os, hb4.tape, hb4.output, hb4.size, hb4.block⟩; have hz4 := hb4.size; have K4 := (show Boxes w1 w.heap.size k n s k' n' s' from ⟨c0, c1, c2, d0, d1, d2⟩).below hb4 (by omega); unfold Boxes at K4; have Z4 := Lib.hid (HZ1.out.below hb4 HZ1.out.lt); have B4 := Lib.hid (below_trans HB1.out hb4); clear hb4)
        | (go_at_call_of 64 (Value.agg #[Value.int IntKind.i64 k', Value.int IntKind.i64 n', Value.string s']); refine (HQ.out _).mono ?_; rintro e w5 ⟨rfl, hb5⟩; have hz5 := hb5.size; have K5 := (show Boxes w4 w.heap.size k n s k' n' s' from K4).below hb5 (by omega); unfold Boxes at K5; have Z5 := Lib.hid (Z4.out.below hb5 Z4.out.lt); have B5 := Lib.hid (below_trans B4.out hb5); clear hb5)
        | (go_at_call 63; refine (whole_any _ _).mono ?_; rintro e w6 ⟨rfl, hb6⟩; have hz6 := hb6.size; have K6 := (show Boxes w5 w.heap.size k n s k' n' s' from K5).below hb6 (by omega); unfold Boxes at K6; have Z6 := Lib.hid (Z5.out.below hb6 Z5.out.lt); have B6 := Lib.hid (below_trans B5.out hb6); clear hb6; obtain ⟨⟨r0, r1, r2⟩, f0, f1, f2⟩ := Z6.out.facts))
    go_wp2
    refine bodyPost_ret (v := .tuple #[.agg #[.int .i64 (wholeV (min pa pb)).k, .int .i64 (wholeV (min pa pb)).n, .string (wholeV (min pa pb)).s], .int .i64 ww]) (by simp [results, Tryd.results25, go_sem, r0, r1, r2, HW.out]) rfl ?_
    refine ⟨rfl, ?_⟩
    repeat (first | exact B6.out | refine below_store ?_ (by omega) _)
  · have hv : decV false a b = ⟨0, 0, ⟨#[]⟩⟩ := dec_zero hz
    rw [hv]
    have hne : (want 3 [a, b] != 0) = true := by simpa using hz
    clear hv hz
    generalize want 3 [a, b] = ww at HC hne ⊢
    obtain ⟨k, n, s⟩ := a
    obtain ⟨k', n', s'⟩ := b
    simp only at HC HT ⊢
    go_enter Tryd.func25, Tryd.ntmps25
    go_wp2_with fail
    refine (HC.out _).mono ?_
    rintro e w1 ⟨rfl, hb1⟩
    obtain ⟨K1, Z1, B1, hz1⟩ := HT.out w1 (hb1.mono (by simp))
    obtain ⟨⟨r0, r1, r2⟩, f0, f1, f2⟩ := Z1.facts
    have HB1 := Lib.hid B1
    clear hb1 K1 Z1 B1
    go_wp2
    refine bodyPost_ret (v := .tuple #[.agg #[.int .i64 0, .int .i64 0, .string ⟨#[]⟩], .int .i64 ww]) (by simp [results, Tryd.results25, go_sem, r0, r1, r2]) rfl ?_
    refine ⟨rfl, ?_⟩
    repeat (first | exact HB1.out | refine below_store ?_ (by omega) _)

set_option maxRecDepth 100000 in
set_option maxHeartbeats 1000000 in
theorem ror_any (a b : V) (hsa : a.s.size ≤ 9223372036854775807) (hsb : b.s.size ≤ 9223372036854775807) (w : World) :
    Calls Tryd.prog 27 #[.agg #[.int .i64 a.k, .int .i64 a.n, .string a.s], .agg #[.int .i64 b.k, .int .i64 b.n, .string b.s]] w fun e w' =>
      e = .returned (.tuple #[.agg #[.int .i64 (decV true a b).k, .int .i64 (decV true a b).n, .string (decV true a b).s], .int .i64 (want 3 [a, b])]) ∧ Below w.heap.size w w' := by
  have HC := Lib.hid (rfit_any 3 a b hsa hsb)
  have HT := Lib.hid (fun (w' : World) (h : Below (w.heap.size + 3) (M3 w a b) w') => three_boxes h (Nat.le_refl _))
  clear hsa hsb
  by_cases hz : want 3 [a, b] = 0
  · have hv : decV true a b = wholeV (max (partI a) (partI b)) := or_whole hz
    have hbd := bound_n hz
    have HP := Lib.hid (part_any a hbd.1.1 hbd.1.2)
    have HQ := Lib.hid (part_any b hbd.2.1 hbd.2.2)
    have hne : (want 3 [a, b] != 0) = false := by simpa using hz
    have HW := Lib.hid hz
    rw [hv]
    clear hv hbd hz
    generalize want 3 [a, b] = ww at HC hne HW ⊢
    generalize partI a = pa at HP ⊢
    generalize partI b = pb at HQ ⊢
    obtain ⟨k, n, s⟩ := a
    obtain ⟨k', n', s'⟩ := b
    simp only at HC HT HP HQ ⊢
    go_enter Tryd.func27, Tryd.ntmps27
    go_wp2_with fail
    refine (HC.out _).mono ?_
    rintro e w1 ⟨rfl, hb1⟩
    obtain ⟨K1, Z1, B1, hz1⟩ := HT.out w1 (hb1.mono (by simp))
    have HZ1 := Lib.hid Z1
    have HB1 := Lib.hid B1
    unfold Boxes at K1
    obtain ⟨c0, c1, c2, d0, d1, d2⟩ := K1
    clear hb1 Z1 B1 HT HC
    go_wp2_with fail
    go_region_held3 (fun w' => w'.cell? ⟨w.heap.size, 0, none⟩ = some (.int .i64 k) ∧ w'.cell? ⟨w.heap.size, 1, none⟩ = some (.int .i64 n) ∧ w'.cell? ⟨w.heap.size, 2, none⟩ = some (.string s) ∧
        w'.cell? ⟨w.heap.size + 1, 0, none⟩ = some (.int .i64 k') ∧ w'.cell? ⟨w.heap.size + 1, 1, none⟩ = some (.int .i64 n') ∧ w'.cell? ⟨w.heap.size + 1, 2, none⟩ = some (.string s'))
      (first | exact K6 | exact K5 | exact K4 | exact And.intro (st3 K6.1 (by omega)) (And.intro (st3 K6.2.1 (by omega)) (And.intro (st3 K6.2.2.1 (by omega)) (And.intro (st3 K6.2.2.2.1 (by omega)) (And.intro (st3 K6.2.2.2.2.1 (by omega)) (st3 K6.2.2.2.2.2 (by omega)))))) | go_keep)
      (first
        | (go_at_call_of 64 (Value.agg #[Value.int IntKind.i64 k, Value.int IntKind.i64 n, Value.string s]); refine (HP.out _).mono ?_; rintro e w4 ⟨rfl, hb4⟩; have hb4 : Below w1.heap.size w1 w4 := ⟨hb4.os, hb4.tape, hb4.output, hb4.size, hb4.block⟩; have hz4 := hb4.size; have K4 := (show Boxes w1 w.heap.size k n s k' n' s' from ⟨c0, c1, c2, d0, d1, d2⟩).below hb4 (by omega); unfold Boxes at K4; have Z4 := Lib.hid (HZ1.out.below hb4 HZ1.out.lt); have B4 := Lib.hid (below_trans HB1.out hb4); clear hb4)
        | (go_at_call_of 64 (Value.agg #[Value.int IntKind.i64 k', Value.int IntKind.i64 n', Value.string s']); refine (HQ.out _).mono ?_; rintro e w5 ⟨rfl, hb5⟩; have hz5 := hb5.size; have K5 := (show Boxes w4 w.heap.size k n s k' n' s' from K4).below hb5 (by omega); unfold Boxes at K5; have Z5 := Lib.hid (Z4.out.below hb5 Z4.out.lt); have B5 := Lib.hid (below_trans B4.out hb5); clear hb5)
        | (go_at_call 63; refine (whole_any _ _).mono ?_; rintro e w6 ⟨rfl, hb6⟩; have hz6 := hb6.size; have K6 := (show Boxes w5 w.heap.size k n s k' n' s' from K5).below hb6 (by omega); unfold Boxes at K6; have Z6 := Lib.hid (Z5.out.below hb6 Z5.out.lt); have B6 := Lib.hid (below_trans B5.out hb6); clear hb6; obtain ⟨⟨r0, r1, r2⟩, f0, f1, f2⟩ := Z6.out.facts))
    go_wp2
    refine bodyPost_ret (v := .tuple #[.agg #[.int .i64 (wholeV (max pa pb)).k, .int .i64 (wholeV (max pa pb)).n, .string (wholeV (max pa pb)).s], .int .i64 ww]) (by simp [results, Tryd.results27, go_sem, r0, r1, r2, HW.out]) rfl ?_
    refine ⟨rfl, ?_⟩
    repeat (first | exact B6.out | refine below_store ?_ (by omega) _)
  · have hv : decV true a b = ⟨0, 0, ⟨#[]⟩⟩ := dec_zero hz
    rw [hv]
    have hne : (want 3 [a, b] != 0) = true := by simpa using hz
    clear hv hz
    generalize want 3 [a, b] = ww at HC hne ⊢
    obtain ⟨k, n, s⟩ := a
    obtain ⟨k', n', s'⟩ := b
    simp only at HC HT ⊢
    go_enter Tryd.func27, Tryd.ntmps27
    go_wp2_with fail
    refine (HC.out _).mono ?_
    rintro e w1 ⟨rfl, hb1⟩
    obtain ⟨K1, Z1, B1, hz1⟩ := HT.out w1 (hb1.mono (by simp))
    obtain ⟨⟨r0, r1, r2⟩, f0, f1, f2⟩ := Z1.facts
    have HB1 := Lib.hid B1
    clear hb1 K1 Z1 B1
    go_wp2
    refine bodyPost_ret (v := .tuple #[.agg #[.int .i64 0, .int .i64 0, .string ⟨#[]⟩], .int .i64 ww]) (by simp [results, Tryd.results27, go_sem, r0, r1, r2]) rfl ?_
    refine ⟨rfl, ?_⟩
    repeat (first | exact HB1.out | refine below_store ?_ (by omega) _)

theorem want_dup (a : V) : want 3 [a, a] = want 3 [a] := by simp [want]
theorem not_whole {a : V} (h : want 3 [a, a] = 0) : notV a = wholeV (2 - partI a) := by
  unfold notV
  rw [if_pos (by rw [← want_dup]; exact h)]
  obtain ⟨ha, _⟩ := want_two h
  clear h
  rcases ha with rfl | rfl | rfl <;> simp [V.is, V.isNull, veq, seq_refl, bit, partI, wholeV]
theorem not_zero {a : V} (h : want 3 [a, a] ≠ 0) : notV a = ⟨0, 0, ⟨#[]⟩⟩ := by
  unfold notV; rw [if_neg (by rw [← want_dup]; exact h)]
theorem part_bd {a : V} (h : want 3 [a, a] = 0) : 0 ≤ partI a ∧ partI a ≤ 2 := by
  obtain ⟨ha, _⟩ := want_two h
  rcases ha with rfl | rfl | rfl <;> simp [partI]
set_option maxHeartbeats 1000000 in
theorem rnot_any (a : V) (hsa : a.s.size ≤ 9223372036854775807) (w : World) :
    Calls Tryd.prog 29 #[.agg #[.int .i64 a.k, .int .i64 a.n, .string a.s]] w fun e w' =>
      e = .returned (.tuple #[.agg #[.int .i64 (notV a).k, .int .i64 (notV a).n, .string (notV a).s], .int .i64 (want 3 [a])]) ∧ Below w.heap.size w w' := by
  have HC := Lib.hid (rfit_any 3 a a hsa hsa)
  have HT := Lib.hid (fun (w' : World) (h : Below (w.heap.size + 2) (N2 w a) w') => one_box h (Nat.le_refl _))
  clear hsa
  rw [← want_dup a]
  by_cases hz : want 3 [a, a] = 0
  · have hv : notV a = wholeV (2 - partI a) := not_whole hz
    have hbd := bound_n hz
    have HP := Lib.hid (part_any a hbd.1.1 hbd.1.2)
    have hpb := part_bd hz
    have hne : (want 3 [a, a] != 0) = false := by simpa using hz
    have HW := Lib.hid hz
    rw [hv]
    clear hv hbd hz
    generalize want 3 [a, a] = ww at HC hne HW ⊢
    generalize partI a = pa at HP hpb ⊢
    obtain ⟨hp1, hp2⟩ := hpb
    obtain ⟨k, n, s⟩ := a
    simp only at HC HT HP ⊢
    go_enter Tryd.func29, Tryd.ntmps29
    go_wp2_with fail
    refine (HC.out _).mono ?_
    rintro e w1 ⟨rfl, hb1⟩
    obtain ⟨⟨c0, c1, c2⟩, Z1, B1, hz1⟩ := HT.out w1 (hb1.mono (by simp))
    have HZ1 := Lib.hid Z1
    have HB1 := Lib.hid B1
    clear hb1 Z1 B1 HT HC
    go_wp2_with fail
    refine (HP.out _).mono ?_
    rintro e w2 ⟨rfl, hb2⟩
    have hz2 := hb2.size
    have HZ2 := Lib.hid (HZ1.out.below hb2 HZ1.out.lt)
    have HB2 := Lib.hid (below_trans HB1.out hb2)
    clear hb2 c0 c1 c2
    go_wp2_with fail
    refine (whole_any _ _).mono ?_
    rintro e w3 ⟨rfl, hb3⟩
    have hz3 := hb3.size
    obtain ⟨⟨r0, r1, r2⟩, f0, f1, f2⟩ := (HZ2.out.below hb3 HZ2.out.lt).facts
    have HB3 := Lib.hid (below_trans HB2.out hb3)
    clear hb3
    go_wp2
    refine bodyPost_ret (v := .tuple #[.agg #[.int .i64 (wholeV (2 - pa)).k, .int .i64 (wholeV (2 - pa)).n, .string (wholeV (2 - pa)).s], .int .i64 ww]) (by simp [results, Tryd.results29, go_sem, r0, r1, r2, HW.out]) rfl ?_
    refine ⟨rfl, ?_⟩
    repeat (first | exact HB3.out | refine below_store ?_ (by omega) _)
  · have hv : notV a = ⟨0, 0, ⟨#[]⟩⟩ := not_zero hz
    rw [hv]
    have hne : (want 3 [a, a] != 0) = true := by simpa using hz
    clear hv hz
    generalize want 3 [a, a] = ww at HC hne ⊢
    obtain ⟨k, n, s⟩ := a
    simp only at HC HT ⊢
    go_enter Tryd.func29, Tryd.ntmps29
    go_wp2_with fail
    refine (HC.out _).mono ?_
    rintro e w1 ⟨rfl, hb1⟩
    obtain ⟨⟨c0, c1, c2⟩, Z1, B1, hz1⟩ := HT.out w1 (hb1.mono (by simp))
    obtain ⟨⟨r0, r1, r2⟩, f0, f1, f2⟩ := Z1.facts
    have HB1 := Lib.hid B1
    clear hb1 Z1 B1
    go_wp2
    refine bodyPost_ret (v := .tuple #[.agg #[.int .i64 0, .int .i64 0, .string ⟨#[]⟩], .int .i64 ww]) (by simp [results, Tryd.results29, go_sem, r0, r1, r2]) rfl ?_
    refine ⟨rfl, ?_⟩
    repeat (first | exact HB1.out | refine below_store ?_ (by omega) _)
end Go.Proofs.YtjfpkjpicalfmaaDoor
