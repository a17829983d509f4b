/-
  THE WALKS OF Neg and Join.
-/
import Derived.Test.YtjfpkjpicalfmaaDoorWalkO
import Derived.Test.YtjfpkjpicalfmaaDoorWalkL
namespace Go.Proofs.YtjfpkjpicalfmaaDoor
open Go.RowKit Go.Sort
attribute [local go_sem high] run_eq23 run_neq23 run_eq9

set_option maxRecDepth 100000 in
set_option maxHeartbeats 2000000 in
theorem neg_any (a : V) (ha : In64 a.n) (hsa : a.s.size ≤ 9223372036854775807) (w : World) :
    Calls Tryd.prog 36 #[.agg #[.int .i64 a.k, .int .i64 a.n, .string a.s]] w fun e w' =>
      e = .returned (.tuple #[.agg #[.int .i64 (reckV 1 ⟨1, 0, ⟨#[]⟩⟩ a).k, .int .i64 (reckV 1 ⟨1, 0, ⟨#[]⟩⟩ a).n, .string (reckV 1 ⟨1, 0, ⟨#[]⟩⟩ a).s], .int .i64 (reckE 1 ⟨1, 0, ⟨#[]⟩⟩ a)]) ∧ Below w.heap.size w w' := by
  have HC := Lib.hid (vsub_any ⟨1, 0, ⟨#[]⟩⟩ a (by show In64 0; unfold In64; omega) ha (by show (0 : Nat) ≤ _; omega) hsa)
  have HT := Lib.hid (fun (w' : World) (h : Below (w.heap.size + 2) (N2 w a) w') => one_box h (Nat.le_refl _))
  clear ha hsa
  generalize reckV 1 ⟨1, 0, ⟨#[]⟩⟩ a = hv at HC ⊢
  generalize reckE 1 ⟨1, 0, ⟨#[]⟩⟩ a = he at HC ⊢
  obtain ⟨k, n, s⟩ := a
  obtain ⟨vk, vn, vs⟩ := hv
  simp only at HC HT ⊢
  go_enter Tryd.func36, Tryd.ntmps36
  go_wp2_with fail
  have HW : Hid (Below (w.heap.size + 2) (N2 w ⟨k, n, s⟩) (N2 w ⟨k, n, s⟩).drew) := (Below.refl _ _).drew
  unfold N2 at HW
  go_region_held3 (fun w' => w'.cell? ⟨w.heap.size, 0, none⟩ = some (.int .i64 k) ∧ w'.cell? ⟨w.heap.size, 1, none⟩ = some (.int .i64 n) ∧ w'.cell? ⟨w.heap.size, 2, none⟩ = some (.string s))
    (first | exact K6 | exact K4 | exact And.intro (st3 K6.1 (by omega)) (And.intro (st3 K6.2.1 (by omega)) (st3 K6.2.2 (by omega))) | go_keep)
    (first
      | (go_at_call 49; refine (ofInt_any _ _).mono ?_; rintro e w4 ⟨rfl, hb4⟩; have hb4' := HW.out.trans (hb4.mono (by simp)); obtain ⟨K4, Z4, B4, hz4⟩ := HT.out w4 hb4'; have HB4 := Lib.hid B4; have HZ4 := Lib.hid Z4; clear hb4 hb4' B4 Z4)
      | (go_at_call 31; refine (HC.out _).mono ?_; rintro e w6 ⟨rfl, hb6⟩; obtain ⟨hc6, hf6⟩ := bcell hb6; have hz6 := hb6.size; have K6 := And.intro ((hc6 _ 0 (by omega)).trans K4.1) (And.intro ((hc6 _ 1 (by omega)).trans K4.2.1) ((hc6 _ 2 (by omega)).trans K4.2.2)); have HB6 := Lib.hid (below_trans HB4.out hb6); obtain ⟨⟨r0, r1, r2⟩, f0, f1, f2⟩ := (HZ4.out.below hb6 HZ4.out.lt).facts; clear hb6 hc6 hf6))
  go_wp2
  refine bodyPost_ret (v := .tuple #[.agg #[.int .i64 vk, .int .i64 vn, .string vs], .int .i64 he]) (by simp [results, Tryd.results36, go_sem, r0, r1, r2]) rfl ?_
  refine ⟨rfl, ?_⟩
  repeat (first | exact HB6.out | refine below_store ?_ (by omega) _)

/-- Join: P3.6 -/
def joinV (a b : V) : V :=
  if want 2 [a, b] = 0 then (if a.isNull || b.isNull then ⟨0, 0, ⟨#[]⟩⟩ else if 64 < a.s.size + b.s.size then ⟨0, 0, ⟨#[]⟩⟩ else ⟨2, 0, a.s ++ b.s⟩) else ⟨0, 0, ⟨#[]⟩⟩
def joinE (a b : V) : Int :=
  if want 2 [a, b] = 0 then (if a.isNull || b.isNull then 0 else if 64 < a.s.size + b.s.size then 3 else 0) else want 2 [a, b]
theorem may_size {v : V} (h : v.may = true) : v.s.size ≤ 64 := by
  obtain ⟨k, n, s⟩ := v
  have h : YtjfpkjpicalfmaaDoor.may k n s = true := h
  by_cases hk : k = 2
  · subst hk; simp [YtjfpkjpicalfmaaDoor.may] at h; exact h.2
  · have := may_s h hk
    subst this
    exact Nat.zero_le _
theorem want_may {i : Int} {a b : V} (h : want i [a, b] = 0) (_hi : i ≠ 100) : a.may = true ∧ b.may = true := by
  unfold want at h
  split at h
  · rename_i hm
    simp at hm
    exact hm
  · cases h

set_option maxRecDepth 100000 in
set_option maxHeartbeats 2000000 in
theorem join_any (a b : V) (hsa : a.s.size ≤ 9223372036854775807) (hsb : b.s.size ≤ 9223372036854775807) (w : World) :
    Calls Tryd.prog 38 #[.agg #[.int .i64 a.k, .int .i64 a.n, .string a.s], .agg #[.int .i64 b.k, .int .i64 b.n, .string b.s]] w fun e w' =>
      e = .returned (.tuple #[.agg #[.int .i64 (joinV a b).k, .int .i64 (joinV a b).n, .string (joinV a b).s], .int .i64 (joinE a b)]) ∧ Below w.heap.size w w' := by
  have HV := Vs.two (M3 w a b) a b
  have HC := Lib.hid (wanted_any 2 _ [a, b] 2 _ HV (by simp) rfl (by omega) (by simp; exact ⟨hsa, hsb⟩))
  have HN := Lib.hid (fun (W : World) => anyNull_any W.heap.size [a, b] 2 _ (Vs.two W a b) (by simp) rfl (by omega))
  have HT := Lib.hid (fun (w' : World) (h : Below (w.heap.size + 3) (M3 w a b) w') => three_boxes h (Nat.le_refl _))
  clear HV hsa hsb
  unfold M3 M2 at HC
  simp only [World.size_alloc, Nat.add_assoc, Nat.reduceAdd] at HC
  have HU : Hid ([a, b].any V.isNull = (a.isNull || b.isNull)) := by show [a, b].any V.isNull = (a.isNull || b.isNull); simp
  have HM := Lib.hid (fun (h : want 2 [a, b] = 0) => (want_may h (by decide)))
  have HSA := Lib.hid (fun (h : want 2 [a, b] = 0) => may_size (HM.out h).1)
  have HSB := Lib.hid (fun (h : want 2 [a, b] = 0) => may_size (HM.out h).2)
  have HV1 : Hid (joinV a b = if want 2 [a, b] = 0 then (if a.isNull || b.isNull then ⟨0, 0, ⟨#[]⟩⟩ else if 64 < a.s.size + b.s.size then ⟨0, 0, ⟨#[]⟩⟩ else ⟨2, 0, a.s ++ b.s⟩) else ⟨0, 0, ⟨#[]⟩⟩) := rfl
  have HE1 : Hid (joinE a b = if want 2 [a, b] = 0 then (if a.isNull || b.isNull then 0 else if 64 < a.s.size + b.s.size then 3 else 0) else want 2 [a, b]) := rfl
  clear HM
  generalize hnn : (a.isNull || b.isNull) = nn at HU HV1 HE1
  generalize hww : want 2 [a, b] = ww at HC HV1 HE1 HSA HSB
  clear hnn hww
  generalize joinV a b = rv at HV1 ⊢
  generalize joinE a b = re at HE1 ⊢
  obtain ⟨k, n, s⟩ := a
  obtain ⟨k', n', s'⟩ := b
  simp only at HC HN HT HV1 HE1 HSA HSB ⊢
  go_enter Tryd.func38, Tryd.ntmps38
  go_wp2_with fail
  refine HC.out.mono ?_
  rintro e w1 ⟨rfl, hb1⟩
  obtain ⟨K1, Z1, B1, hz1⟩ := HT.out w1 ((((Below.refl _ _).alloc (by simp [M3, M2]) _)).trans (hb1.mono (by simp)))
  have HK1 := Lib.hid K1
  have HZ1 := Lib.hid Z1
  have HB1 := Lib.hid B1
  unfold Boxes at K1
  obtain ⟨c0, c1, c2, d0, d1, d2⟩ := K1
  clear hb1 Z1 B1 HT HC
  by_cases hww : ww = 0
  · have hne : (ww != 0) = false := by simpa using hww
    have hsa := HSA.out hww
    have hsb := HSB.out hww
    have HV2 : Hid (rv = if nn then ⟨0, 0, ⟨#[]⟩⟩ else if 64 < s.size + s'.size then ⟨0, 0, ⟨#[]⟩⟩ else ⟨2, 0, s ++ s'⟩) := by show rv = _; rw [HV1.out, if_pos hww]
    have HE2 : Hid (re = if nn then 0 else if 64 < s.size + s'.size then 3 else 0) := by show re = _; rw [HE1.out, if_pos hww]
    have HW := Lib.hid hww
    clear hww HV1 HE1 HSA HSB
    go_wp2_with fail
    refine (HN.out w1).mono ?_
    rintro e w2 ⟨rfl, hb2⟩
    have hb3 : Below w1.heap.size w1 w2 := ((Below.refl _ _).alloc (Nat.le_refl _) _).trans (hb2.mono (by simp))
    have hz2 := hb3.size
    have HB2 := Lib.hid (below_trans HB1.out hb3)
    have HZ2 := Lib.hid (HZ1.out.below hb3 HZ1.out.lt)
    have K2 := HK1.out.below hb3 (by omega)
    unfold Boxes at K2
    clear c0 c1 c2 d0 d1 d2 hb2 hb3
    obtain ⟨c0, c1, c2, d0, d1, d2⟩ := K2
    rw [HU.out]
    cases nn
    · by_cases hl : 64 < s.size + s'.size
      · have hl2 : decide ((s.size : Int) + (s'.size : Int) > 64) = true := by simp; omega
        have HVV : Hid (rv = ⟨0, 0, ⟨#[]⟩⟩) := by show rv = _; rw [HV2.out]; simp [hl]
        have HEE : Hid (re = 3) := by show re = _; rw [HE2.out]; simp [hl]
        clear hl
        obtain ⟨⟨r0, r1, r2⟩, f0, f1, f2⟩ := HZ2.out.facts
        go_wp2
        refine bodyPost_ret (v := .tuple #[.agg #[.int .i64 0, .int .i64 0, .string ⟨#[]⟩], .int .i64 3]) (by simp [results, Tryd.results38, go_sem, r0, r1, r2]) rfl ?_
        refine ⟨by rw [HVV.out, HEE.out], ?_⟩
        repeat (first | exact HB2.out | refine below_store ?_ (by omega) _)
      · have hl2 : decide ((s.size : Int) + (s'.size : Int) > 64) = false := by simp; omega
        have HVV : Hid (rv = ⟨2, 0, s ++ s'⟩) := by show rv = _; rw [HV2.out]; simp [hl]
        have HEE : Hid (re = 0) := by show re = _; rw [HE2.out]; simp [hl]
        clear hl
        go_wp2_with fail
        refine (ofText_any _ _).mono ?_
        rintro e w5 ⟨rfl, hb5⟩
        have hz5 := hb5.size
        have HB5 := Lib.hid (below_trans HB2.out hb5)
        obtain ⟨⟨r0, r1, r2⟩, f0, f1, f2⟩ := (HZ2.out.below hb5 HZ2.out.lt).facts
        clear hb5
        go_wp2
        refine bodyPost_ret (v := .tuple #[.agg #[.int .i64 2, .int .i64 0, .string (s ++ s')], .int .i64 0]) (by simp [results, Tryd.results38, go_sem, r0, r1, r2]) rfl ?_
        refine ⟨by rw [HVV.out, HEE.out], ?_⟩
        repeat (first | exact HB5.out | refine below_store ?_ (by omega) _)
    · have HVV : Hid (rv = ⟨0, 0, ⟨#[]⟩⟩) := by show rv = _; rw [HV2.out]; rfl
      have HEE : Hid (re = 0) := by show re = _; rw [HE2.out]; rfl
      obtain ⟨⟨r0, r1, r2⟩, f0, f1, f2⟩ := HZ2.out.facts
      go_wp2
      refine bodyPost_ret (v := .tuple #[.agg #[.int .i64 0, .int .i64 0, .string ⟨#[]⟩], .int .i64 0]) (by simp [results, Tryd.results38, go_sem, r0, r1, r2]) rfl ?_
      refine ⟨by rw [HVV.out, HEE.out], ?_⟩
      repeat (first | exact HB2.out | refine below_store ?_ (by omega) _)
  · have hne : (ww != 0) = true := by simpa using hww
    have HVV : Hid (rv = ⟨0, 0, ⟨#[]⟩⟩) := by show rv = _; rw [HV1.out, if_neg hww]
    have HEE : Hid (re = ww) := by show re = _; rw [HE1.out, if_neg hww]
    obtain ⟨⟨r0, r1, r2⟩, f0, f1, f2⟩ := HZ1.out.facts
    clear hww
    go_wp2
    refine bodyPost_ret (v := .tuple #[.agg #[.int .i64 0, .int .i64 0, .string ⟨#[]⟩], .int .i64 ww]) (by simp [results, Tryd.results38, go_sem, r0, r1, r2]) rfl ?_
    refine ⟨by rw [HVV.out, HEE.out], ?_⟩
    repeat (first | exact HB1.out | refine below_store ?_ (by omega) _)
end Go.Proofs.YtjfpkjpicalfmaaDoor
