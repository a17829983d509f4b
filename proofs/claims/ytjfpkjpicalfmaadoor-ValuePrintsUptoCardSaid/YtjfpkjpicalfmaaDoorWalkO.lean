/-
  THE WALKS OF reckoned, Add, Sub, Mul, Div, Mod.
-/
import Derived.Test.YtjfpkjpicalfmaaDoorWalkK
import Derived.Test.YtjfpkjpicalfmaaDoorWalkN
namespace Go.Proofs.YtjfpkjpicalfmaaDoor
open Go.RowKit Go.Sort
attribute [local go_sem high] run_eq23 run_neq23 run_eq9

/-- what two numbers make -/
def reckV (i : Nat) (a b : V) : V :=
  if want 1 [a, b] = 0 then (if a.isNull || b.isNull then ⟨0, 0, ⟨#[]⟩⟩ else if calcE i a.n b.n = 0 then ⟨1, calcN i a.n b.n, ⟨#[]⟩⟩ else ⟨0, 0, ⟨#[]⟩⟩) else ⟨0, 0, ⟨#[]⟩⟩
def reckE (i : Nat) (a b : V) : Int :=
  if want 1 [a, b] = 0 then (if a.isNull || b.isNull then 0 else calcE i a.n b.n) else want 1 [a, b]

set_option maxRecDepth 100000 in
set_option maxHeartbeats 2000000 in
theorem reckoned_any (i : Nat) (g : Nat) (hcf : ∀ args w, (callFunc g args).run Tryd.prog w = .ok (.enter g args) w)
    (a b : V) (hsa : a.s.size ≤ 9223372036854775807) (hsb : b.s.size ≤ 9223372036854775807)
    (hp : ∀ w, Calls Tryd.prog g #[.int .i64 a.n, .int .i64 b.n] w fun e w' => e = .returned (.tuple #[.int .i64 (calcN i a.n b.n), .int .i64 (calcE i a.n b.n)]) ∧ Below w.heap.size w w') (w : World) :
    Calls Tryd.prog 66 #[.agg #[.int .i64 a.k, .int .i64 a.n, .string a.s], .agg #[.int .i64 b.k, .int .i64 b.n, .string b.s], .func (.func g) #[] #[]] w fun e w' =>
      e = .returned (.tuple #[.agg #[.int .i64 (reckV i a b).k, .int .i64 (reckV i a b).n, .string (reckV i a b).s], .int .i64 (reckE i a b)]) ∧ Below w.heap.size w w' := by
  have HP := Lib.hid hp
  have HV := Vs.two (M3 w a b) a b
  have HC := Lib.hid (wanted_any 1 _ [a, b] 2 _ HV (by simp) rfl (by omega) (by simp; exact ⟨hsa, hsb⟩))
  have HN := Lib.hid (fun (W : World) => anyNull_any W.heap.size [a, b] 2 _ (Vs.two W a b) (by simp) rfl (by omega))
  have HT := Lib.hid (fun (w' : World) (h : Below (w.heap.size + 3) (M3 w a b) w') => three_boxes h (Nat.le_refl _))
  clear HV hsa hsb hp
  unfold M3 M2 at HC
  simp only [World.size_alloc, Nat.add_assoc, Nat.reduceAdd] at HC
  have HU : Hid ([a, b].any V.isNull = (a.isNull || b.isNull)) := by show [a, b].any V.isNull = (a.isNull || b.isNull); simp
  have HV1 : Hid (reckV i a b = if want 1 [a, b] = 0 then (if a.isNull || b.isNull then ⟨0, 0, ⟨#[]⟩⟩ else if calcE i a.n b.n = 0 then ⟨1, calcN i a.n b.n, ⟨#[]⟩⟩ else ⟨0, 0, ⟨#[]⟩⟩) else ⟨0, 0, ⟨#[]⟩⟩) := rfl
  have HE1 : Hid (reckE i a b = if want 1 [a, b] = 0 then (if a.isNull || b.isNull then 0 else calcE i a.n b.n) else want 1 [a, b]) := rfl
  generalize hnn : (a.isNull || b.isNull) = nn at HU HV1 HE1
  generalize hww : want 1 [a, b] = ww at HC HV1 HE1
  generalize hen : calcE i a.n b.n = en at HP HV1 HE1
  generalize hnv : calcN i a.n b.n = nv at HP HV1
  clear hnn hww hen hnv
  generalize reckV i a b = rv at HV1 ⊢
  generalize reckE i a b = re at HE1 ⊢
  obtain ⟨k, n, s⟩ := a
  obtain ⟨k', n', s'⟩ := b
  simp only at HC HN HT HP ⊢
  go_enter Tryd.func66, Tryd.ntmps66
  go_wp2_with fail
  refine HC.out.mono ?_
  rintro e w1 ⟨rfl, hb1⟩
  obtain ⟨K1, Z1, B1, hz1⟩ := HT.out w1 ((((Below.refl _ _).alloc (by simp [M3, M2]) _)).trans (hb1.mono (by simp)))
  have HK1 := Lib.hid K1
  have HZ1 := Lib.hid Z1
  have HB1 := Lib.hid B1
  unfold Boxes at K1
  obtain ⟨c0, c1, c2, d0, d1, d2⟩ := K1
  clear hb1 Z1 B1 HT HC
  by_cases hww : ww = 0
  · have hne : (ww != 0) = false := by simpa using hww
    have HV2 : Hid (rv = if nn then ⟨0, 0, ⟨#[]⟩⟩ else if en = 0 then ⟨1, nv, ⟨#[]⟩⟩ else ⟨0, 0, ⟨#[]⟩⟩) := by show rv = _; rw [HV1.out, if_pos hww]
    have HE2 : Hid (re = if nn then 0 else en) := by show re = _; rw [HE1.out, if_pos hww]
    have HW := Lib.hid hww
    clear hww HV1 HE1
    go_wp2_with fail
    refine (HN.out w1).mono ?_
    rintro e w2 ⟨rfl, hb2⟩
    have hb3 : Below w1.heap.size w1 w2 := ((Below.refl _ _).alloc (Nat.le_refl _) _).trans (hb2.mono (by simp))
    have hz2 := hb3.size
    have HB2 := Lib.hid (below_trans HB1.out hb3)
    have HZ2 := Lib.hid (HZ1.out.below hb3 HZ1.out.lt)
    have K2 := HK1.out.below hb3 (by omega)
    unfold Boxes at K2
    clear c0 c1 c2 d0 d1 d2 hb2 hb3
    obtain ⟨c0, c1, c2, d0, d1, d2⟩ := K2
    rw [HU.out]
    cases nn
    · go_wp2_with fail
      refine (HP.out _).mono ?_
      rintro e w4 ⟨rfl, hb4⟩
      have hz4 := hb4.size
      have HB4 := Lib.hid (below_trans HB2.out hb4)
      have HZ4 := Lib.hid (HZ2.out.below hb4 HZ2.out.lt)
      clear c0 c1 c2 d0 d1 d2 hb4
      by_cases hen : en = 0
      · have hne2 : (en != 0) = false := by simpa using hen
        have HVV : Hid (rv = ⟨1, nv, ⟨#[]⟩⟩) := by show rv = _; rw [HV2.out]; simp [hen]
        have HEE : Hid (re = 0) := by show re = _; rw [HE2.out]; simp [hen]
        clear hen
        go_wp2_with fail
        refine (ofInt_any _ _).mono ?_
        rintro e w5 ⟨rfl, hb5⟩
        have hz5 := hb5.size
        have HB5 := Lib.hid (below_trans HB4.out hb5)
        obtain ⟨⟨r0, r1, r2⟩, f0, f1, f2⟩ := (HZ4.out.below hb5 HZ4.out.lt).facts
        clear hb5
        go_wp2
        refine bodyPost_ret (v := .tuple #[.agg #[.int .i64 1, .int .i64 nv, .string ⟨#[]⟩], .int .i64 0]) (by simp [results, Tryd.results66, go_sem, r0, r1, r2]) rfl ?_
        refine ⟨by rw [HVV.out, HEE.out], ?_⟩
        repeat (first | exact HB5.out | refine below_store ?_ (by omega) _)
      · have hne2 : (en != 0) = true := by simpa using hen
        have HVV : Hid (rv = ⟨0, 0, ⟨#[]⟩⟩) := by show rv = _; rw [HV2.out]; simp [hen]
        have HEE : Hid (re = en) := by show re = _; rw [HE2.out]; rfl
        clear hen
        obtain ⟨⟨r0, r1, r2⟩, f0, f1, f2⟩ := HZ4.out.facts
        go_wp2
        refine bodyPost_ret (v := .tuple #[.agg #[.int .i64 0, .int .i64 0, .string ⟨#[]⟩], .int .i64 en]) (by simp [results, Tryd.results66, go_sem, r0, r1, r2]) rfl ?_
        refine ⟨by rw [HVV.out, HEE.out], ?_⟩
        repeat (first | exact HB4.out | refine below_store ?_ (by omega) _)
    · have HVV : Hid (rv = ⟨0, 0, ⟨#[]⟩⟩) := by show rv = _; rw [HV2.out]; rfl
      have HEE : Hid (re = 0) := by show re = _; rw [HE2.out]; rfl
      obtain ⟨⟨r0, r1, r2⟩, f0, f1, f2⟩ := HZ2.out.facts
      go_wp2
      refine bodyPost_ret (v := .tuple #[.agg #[.int .i64 0, .int .i64 0, .string ⟨#[]⟩], .int .i64 0]) (by simp [results, Tryd.results66, go_sem, r0, r1, r2]) rfl ?_
      refine ⟨by rw [HVV.out, HEE.out], ?_⟩
      repeat (first | exact HB2.out | refine below_store ?_ (by omega) _)
  · have hne : (ww != 0) = true := by simpa using hww
    have HVV : Hid (rv = ⟨0, 0, ⟨#[]⟩⟩) := by show rv = _; rw [HV1.out, if_neg hww]
    have HEE : Hid (re = ww) := by show re = _; rw [HE1.out, if_neg hww]
    obtain ⟨⟨r0, r1, r2⟩, f0, f1, f2⟩ := HZ1.out.facts
    clear hww
    go_wp2
    refine bodyPost_ret (v := .tuple #[.agg #[.int .i64 0, .int .i64 0, .string ⟨#[]⟩], .int .i64 ww]) (by simp [results, Tryd.results66, go_sem, r0, r1, r2]) rfl ?_
    refine ⟨by rw [HVV.out, HEE.out], ?_⟩
    repeat (first | exact HB1.out | refine below_store ?_ (by omega) _)

theorem enters67 : ∀ args w, (callFunc 67 args).run Tryd.prog w = .ok (.enter 67 args) w := fun args w => by go_simp
set_option maxHeartbeats 1000000 in
theorem vadd_any (a b : V) (ha : In64 a.n) (hb : In64 b.n) (hsa : a.s.size ≤ 9223372036854775807) (hsb : b.s.size ≤ 9223372036854775807) (w : World) :
    Calls Tryd.prog 30 #[.agg #[.int .i64 a.k, .int .i64 a.n, .string a.s], .agg #[.int .i64 b.k, .int .i64 b.n, .string b.s]] w fun e w' =>
      e = .returned (.tuple #[.agg #[.int .i64 (reckV 0 a b).k, .int .i64 (reckV 0 a b).n, .string (reckV 0 a b).s], .int .i64 (reckE 0 a b)]) ∧ Below w.heap.size w w' := by
  have HC := Lib.hid (reckoned_any 0 67 enters67 a b hsa hsb (add_any _ _ ha hb))
  have HT := Lib.hid (fun (w' : World) (h : Below (w.heap.size + 3) (M3 w a b) w') => three_boxes h (Nat.le_refl _))
  clear hsa hsb ha hb
  generalize reckV 0 a b = hv at HC ⊢
  generalize reckE 0 a b = he at HC ⊢
  obtain ⟨k, n, s⟩ := a
  obtain ⟨k', n', s'⟩ := b
  obtain ⟨vk, vn, vs⟩ := hv
  simp only at HC HT ⊢
  go_enter Tryd.func30, Tryd.ntmps30
  go_wp2_with fail
  refine (HC.out _).mono ?_
  rintro e w4 ⟨rfl, hb4⟩
  obtain ⟨K4, Z4, B4, hz4⟩ := HT.out w4 (hb4.mono (by simp))
  obtain ⟨⟨r0, r1, r2⟩, f0, f1, f2⟩ := Z4.facts
  have HB4 := Lib.hid B4
  clear hb4 K4 Z4 B4
  go_wp2
  refine bodyPost_ret (v := .tuple #[.agg #[.int .i64 vk, .int .i64 vn, .string vs], .int .i64 he]) (by simp [results, Tryd.results30, go_sem, r0, r1, r2]) rfl ?_
  refine ⟨rfl, ?_⟩
  repeat (first | exact HB4.out | refine below_store ?_ (by omega) _)

theorem enters69 : ∀ args w, (callFunc 69 args).run Tryd.prog w = .ok (.enter 69 args) w := fun args w => by go_simp
set_option maxHeartbeats 1000000 in
theorem vsub_any (a b : V) (ha : In64 a.n) (hb : In64 b.n) (hsa : a.s.size ≤ 9223372036854775807) (hsb : b.s.size ≤ 9223372036854775807) (w : World) :
    Calls Tryd.prog 31 #[.agg #[.int .i64 a.k, .int .i64 a.n, .string a.s], .agg #[.int .i64 b.k, .int .i64 b.n, .string b.s]] w fun e w' =>
      e = .returned (.tuple #[.agg #[.int .i64 (reckV 1 a b).k, .int .i64 (reckV 1 a b).n, .string (reckV 1 a b).s], .int .i64 (reckE 1 a b)]) ∧ Below w.heap.size w w' := by
  have HC := Lib.hid (reckoned_any 1 69 enters69 a b hsa hsb (sub_any _ _ ha hb))
  have HT := Lib.hid (fun (w' : World) (h : Below (w.heap.size + 3) (M3 w a b) w') => three_boxes h (Nat.le_refl _))
  clear hsa hsb ha hb
  generalize reckV 1 a b = hv at HC ⊢
  generalize reckE 1 a b = he at HC ⊢
  obtain ⟨k, n, s⟩ := a
  obtain ⟨k', n', s'⟩ := b
  obtain ⟨vk, vn, vs⟩ := hv
  simp only at HC HT ⊢
  go_enter Tryd.func31, Tryd.ntmps31
  go_wp2_with fail
  refine (HC.out _).mono ?_
  rintro e w4 ⟨rfl, hb4⟩
  obtain ⟨K4, Z4, B4, hz4⟩ := HT.out w4 (hb4.mono (by simp))
  obtain ⟨⟨r0, r1, r2⟩, f0, f1, f2⟩ := Z4.facts
  have HB4 := Lib.hid B4
  clear hb4 K4 Z4 B4
  go_wp2
  refine bodyPost_ret (v := .tuple #[.agg #[.int .i64 vk, .int .i64 vn, .string vs], .int .i64 he]) (by simp [results, Tryd.results31, go_sem, r0, r1, r2]) rfl ?_
  refine ⟨rfl, ?_⟩
  repeat (first | exact HB4.out | refine below_store ?_ (by omega) _)

theorem enters70 : ∀ args w, (callFunc 70 args).run Tryd.prog w = .ok (.enter 70 args) w := fun args w => by go_simp
set_option maxHeartbeats 1000000 in
theorem vmul_any (a b : V) (ha : In64 a.n) (hb : In64 b.n) (hsa : a.s.size ≤ 9223372036854775807) (hsb : b.s.size ≤ 9223372036854775807) (w : World) :
    Calls Tryd.prog 32 #[.agg #[.int .i64 a.k, .int .i64 a.n, .string a.s], .agg #[.int .i64 b.k, .int .i64 b.n, .string b.s]] w fun e w' =>
      e = .returned (.tuple #[.agg #[.int .i64 (reckV 2 a b).k, .int .i64 (reckV 2 a b).n, .string (reckV 2 a b).s], .int .i64 (reckE 2 a b)]) ∧ Below w.heap.size w w' := by
  have HC := Lib.hid (reckoned_any 2 70 enters70 a b hsa hsb (mul_any _ _ ha hb))
  have HT := Lib.hid (fun (w' : World) (h : Below (w.heap.size + 3) (M3 w a b) w') => three_boxes h (Nat.le_refl _))
  clear hsa hsb ha hb
  generalize reckV 2 a b = hv at HC ⊢
  generalize reckE 2 a b = he at HC ⊢
  obtain ⟨k, n, s⟩ := a
  obtain ⟨k', n', s'⟩ := b
  obtain ⟨vk, vn, vs⟩ := hv
  simp only at HC HT ⊢
  go_enter Tryd.func32, Tryd.ntmps32
  go_wp2_with fail
  refine (HC.out _).mono ?_
  rintro e w4 ⟨rfl, hb4⟩
  obtain ⟨K4, Z4, B4, hz4⟩ := HT.out w4 (hb4.mono (by simp))
  obtain ⟨⟨r0, r1, r2⟩, f0, f1, f2⟩ := Z4.facts
  have HB4 := Lib.hid B4
  clear hb4 K4 Z4 B4
  go_wp2
  refine bodyPost_ret (v := .tuple #[.agg #[.int .i64 vk, .int .i64 vn, .string vs], .int .i64 he]) (by simp [results, Tryd.results32, go_sem, r0, r1, r2]) rfl ?_
  refine ⟨rfl, ?_⟩
  repeat (first | exact HB4.out | refine below_store ?_ (by omega) _)

theorem enters72 : ∀ args w, (callFunc 72 args).run Tryd.prog w = .ok (.enter 72 args) w := fun args w => by go_simp
set_option maxHeartbeats 1000000 in
theorem vdiv_any (a b : V) (ha : In64 a.n) (hsa : a.s.size ≤ 9223372036854775807) (hsb : b.s.size ≤ 9223372036854775807) (w : World) :
    Calls Tryd.prog 33 #[.agg #[.int .i64 a.k, .int .i64 a.n, .string a.s], .agg #[.int .i64 b.k, .int .i64 b.n, .string b.s]] w fun e w' =>
      e = .returned (.tuple #[.agg #[.int .i64 (reckV 3 a b).k, .int .i64 (reckV 3 a b).n, .string (reckV 3 a b).s], .int .i64 (reckE 3 a b)]) ∧ Below w.heap.size w w' := by
  have HC := Lib.hid (reckoned_any 3 72 enters72 a b hsa hsb (div_any _ _ ha))
  have HT := Lib.hid (fun (w' : World) (h : Below (w.heap.size + 3) (M3 w a b) w') => three_boxes h (Nat.le_refl _))
  clear hsa hsb ha
  generalize reckV 3 a b = hv at HC ⊢
  generalize reckE 3 a b = he at HC ⊢
  obtain ⟨k, n, s⟩ := a
  obtain ⟨k', n', s'⟩ := b
  obtain ⟨vk, vn, vs⟩ := hv
  simp only at HC HT ⊢
  go_enter Tryd.func33, Tryd.ntmps33
  go_wp2_with fail
  refine (HC.out _).mono ?_
  rintro e w4 ⟨rfl, hb4⟩
  obtain ⟨K4, Z4, B4, hz4⟩ := HT.out w4 (hb4.mono (by simp))
  obtain ⟨⟨r0, r1, r2⟩, f0, f1, f2⟩ := Z4.facts
  have HB4 := Lib.hid B4
  clear hb4 K4 Z4 B4
  go_wp2
  refine bodyPost_ret (v := .tuple #[.agg #[.int .i64 vk, .int .i64 vn, .string vs], .int .i64 he]) (by simp [results, Tryd.results33, go_sem, r0, r1, r2]) rfl ?_
  refine ⟨rfl, ?_⟩
  repeat (first | exact HB4.out | refine below_store ?_ (by omega) _)

theorem enters73 : ∀ args w, (callFunc 73 args).run Tryd.prog w = .ok (.enter 73 args) w := fun args w => by go_simp
set_option maxHeartbeats 1000000 in
theorem vmod_any (a b : V) (ha : In64 a.n) (hsa : a.s.size ≤ 9223372036854775807) (hsb : b.s.size ≤ 9223372036854775807) (w : World) :
    Calls Tryd.prog 34 #[.agg #[.int .i64 a.k, .int .i64 a.n, .string a.s], .agg #[.int .i64 b.k, .int .i64 b.n, .string b.s]] w fun e w' =>
      e = .returned (.tuple #[.agg #[.int .i64 (reckV 4 a b).k, .int .i64 (reckV 4 a b).n, .string (reckV 4 a b).s], .int .i64 (reckE 4 a b)]) ∧ Below w.heap.size w w' := by
  have HC := Lib.hid (reckoned_any 4 73 enters73 a b hsa hsb (mod_any _ _ ha))
  have HT := Lib.hid (fun (w' : World) (h : Below (w.heap.size + 3) (M3 w a b) w') => three_boxes h (Nat.le_refl _))
  clear hsa hsb ha
  generalize reckV 4 a b = hv at HC ⊢
  generalize reckE 4 a b = he at HC ⊢
  obtain ⟨k, n, s⟩ := a
  obtain ⟨k', n', s'⟩ := b
  obtain ⟨vk, vn, vs⟩ := hv
  simp only at HC HT ⊢
  go_enter Tryd.func34, Tryd.ntmps34
  go_wp2_with fail
  refine (HC.out _).mono ?_
  rintro e w4 ⟨rfl, hb4⟩
  obtain ⟨K4, Z4, B4, hz4⟩ := HT.out w4 (hb4.mono (by simp))
  obtain ⟨⟨r0, r1, r2⟩, f0, f1, f2⟩ := Z4.facts
  have HB4 := Lib.hid B4
  clear hb4 K4 Z4 B4
  go_wp2
  refine bodyPost_ret (v := .tuple #[.agg #[.int .i64 vk, .int .i64 vn, .string vs], .int .i64 he]) (by simp [results, Tryd.results34, go_sem, r0, r1, r2]) rfl ?_
  refine ⟨rfl, ?_⟩
  repeat (first | exact HB4.out | refine below_store ?_ (by omega) _)
end Go.Proofs.YtjfpkjpicalfmaaDoor
