/-
  THE WALK OF the document's Holds.
-/
import Derived.Test.YtjfpkjpicalfmaaDoorWalkG
namespace Go.Proofs.YtjfpkjpicalfmaaDoor
open Go.RowKit Go.Sort
attribute [local go_sem high] run_eq23 run_neq23 run_eq9

/-- the document's comparisons, by number -/
def ask (i : Nat) : Int → Bool :=
  if i = 0 then fun n => n == 0 else if i = 1 then fun n => n != 0 else if i = 2 then fun n => decide (n < 0) else if i = 3 then fun n => decide (n ≤ 0) else if i = 4 then fun n => decide (n > 0) else fun n => decide (n ≥ 0)
theorem isNull_may {v : V} (h : v.may = true) : v.isNull = (v.k == 0) := may_null h

set_option maxRecDepth 100000 in
set_option maxHeartbeats 2000000 in
theorem holds_any (i : Nat) (hi : i < 6) (a b : V) (hsa : a.s.size ≤ 9223372036854775807) (hsb : b.s.size ≤ 9223372036854775807) (w : World) :
    Calls Tryd.prog 23 #[.int .i64 (i : Int), .agg #[.int .i64 a.k, .int .i64 a.n, .string a.s], .agg #[.int .i64 b.k, .int .i64 b.n, .string b.s]] w fun e w' =>
      e = .returned (.tuple #[.agg #[.int .i64 (holdV (ask i) a b).k, .int .i64 (holdV (ask i) a b).n, .string (holdV (ask i) a b).s], .int .i64 (holdE a b)]) ∧ Below w.heap.size w w' := by
  have HC1 := Lib.hid (rmay_any a.k a.n a.s hsa)
  have HC2 := Lib.hid (rmay_any b.k b.n b.s hsb)
  have HO := Lib.hid (fun ha hb => rorder_any a b ha hb hsa hsb)
  have HT := Lib.hid (fun (w' : World) (h : Below (w.heap.size + 2) (M2 w a b) w') => two_boxes h (Nat.le_refl _))
  clear hsa hsb
  have HV1 : Hid (holdV (ask i) a b = if a.may && b.may then (if a.isNull || b.isNull then ⟨0, 0, ⟨#[]⟩⟩ else if a.k != b.k then ⟨0, 0, ⟨#[]⟩⟩ else ⟨3, bit (ask i (ord a b)), ⟨#[]⟩⟩) else ⟨0, 0, ⟨#[]⟩⟩) := rfl
  have HE1 : Hid (holdE a b = if a.may && b.may then (if a.isNull || b.isNull then 0 else if a.k != b.k then 30 else 0) else 5) := rfl
  have HN1 := Lib.hid (fun (h : a.may = true) => isNull_may h)
  have HN2 := Lib.hid (fun (h : b.may = true) => isNull_may h)
  have ema : V.may a = may a.k a.n a.s := rfl
  have emb : V.may b = may b.k b.n b.s := rfl
  rw [ema] at HV1 HE1 HO HN1
  rw [emb] at HV1 HE1 HO HN2
  clear ema emb
  obtain ⟨k, n, s⟩ := a
  obtain ⟨k', n', s'⟩ := b
  simp only at HC1 HC2 HO HT HV1 HE1 HN1 HN2 ⊢
  go_enter Tryd.func23, Tryd.ntmps23
  go_wp2_with fail
  refine (HC1.out _).mono ?_
  rintro e w1 ⟨rfl, hb1⟩
  have hz1 := (Zero.new (M2 w ⟨k, n, s⟩ ⟨k', n', s'⟩)).below hb1 (by simp [M2])
  simp only [M2, World.size_alloc, Nat.add_assoc, Nat.reduceAdd] at hz1
  have hbt := HT.out w1 (((Below.refl _ _).alloc (by simp [M2]) _).trans (hb1.mono (by simp)))
  obtain ⟨⟨c0, c1, c2⟩, ⟨d0, d1, d2⟩, hbel, hz⟩ := hbt
  have HB := Lib.hid hbel
  have HZ := Lib.hid hz1
  clear hb1 hbel hz1
  cases hma : may k n s
  · have HM := Lib.hid hma
    clear hma
    obtain ⟨⟨r0, r1, r2⟩, f0, f1, f2⟩ := HZ.out.facts
    go_wp2
    refine bodyPost_ret (v := .tuple #[.agg #[.int .i64 0, .int .i64 0, .string ⟨#[]⟩], .int .i64 5]) (by simp [results, Tryd.results23, go_sem, r0, r1, r2]) rfl ?_
    refine ⟨by rw [HV1.out, HE1.out, HM.out]; rfl, ?_⟩
    repeat (first | exact HB.out | refine below_store ?_ (by omega) _)
  · have HM := Lib.hid hma
    clear hma
    go_wp2_with fail
    refine (HC2.out _).mono ?_
    rintro e w2 ⟨rfl, hb2⟩
    obtain ⟨hc2, hf2⟩ := bcell hb2
    have hzl := HZ.out.lt
    have hz2 := hb2.size
    have HB2 := Lib.hid (below_trans HB.out hb2)
    have HZ2 := Lib.hid (HZ.out.below hb2 HZ.out.lt)
    have g0 := (hc2 _ 0 (by omega)).trans c0
    have g1 := (hc2 _ 1 (by omega)).trans c1
    have g2 := (hc2 _ 2 (by omega)).trans c2
    have k0 := (hc2 _ 0 (by omega)).trans d0
    have k1 := (hc2 _ 1 (by omega)).trans d1
    have k2 := (hc2 _ 2 (by omega)).trans d2
    clear hb2 c0 c1 c2 d0 d1 d2 hc2 hf2
    cases hmb : may k' n' s'
    · have HN := Lib.hid hmb
      clear hmb
      obtain ⟨⟨r0, r1, r2⟩, f0, f1, f2⟩ := HZ2.out.facts
      go_wp2
      refine bodyPost_ret (v := .tuple #[.agg #[.int .i64 0, .int .i64 0, .string ⟨#[]⟩], .int .i64 5]) (by simp [results, Tryd.results23, go_sem, r0, r1, r2]) rfl ?_
      refine ⟨by rw [HV1.out, HE1.out, HM.out, HN.out]; rfl, ?_⟩
      repeat (first | exact HB2.out | refine below_store ?_ (by omega) _)
    · have HN := Lib.hid hmb
      clear hmb
      have nv1 : holdV (ask i) ⟨k, n, s⟩ ⟨k', n', s'⟩ = if (k == 0) || (k' == 0) then ⟨0, 0, ⟨#[]⟩⟩ else if k != k' then ⟨0, 0, ⟨#[]⟩⟩ else ⟨3, bit (ask i (ord ⟨k, n, s⟩ ⟨k', n', s'⟩)), ⟨#[]⟩⟩ := by
        rw [HV1.out, HM.out, HN.out, HN1.out HM.out, HN2.out HN.out]; rfl
      have ne1 : holdE ⟨k, n, s⟩ ⟨k', n', s'⟩ = if (k == 0) || (k' == 0) then 0 else if k != k' then 30 else 0 := by
        rw [HE1.out, HM.out, HN.out, HN1.out HM.out, HN2.out HN.out]; rfl
      have NV := Lib.hid nv1
      have NE := Lib.hid ne1
      clear nv1 ne1 HV1 HE1 HN1 HN2 HC1 HC2 HT
      by_cases hk : k = 0
      · have e0 : (k == 0) = true := by simpa using hk
        have E0 := Lib.hid e0
        clear hk
        obtain ⟨⟨r0, r1, r2⟩, f0, f1, f2⟩ := HZ2.out.facts
        go_wp2
        refine bodyPost_ret (v := .tuple #[.agg #[.int .i64 0, .int .i64 0, .string ⟨#[]⟩], .int .i64 0]) (by simp [results, Tryd.results23, go_sem, r0, r1, r2]) rfl ?_
        refine ⟨by rw [NV.out, NE.out, E0.out]; rfl, ?_⟩
        repeat (first | exact HB2.out | refine below_store ?_ (by omega) _)
      · have e0 : (k == 0) = false := by simpa using hk
        have E0 := Lib.hid e0
        by_cases hk' : k' = 0
        · have e1 : (k' == 0) = true := by simpa using hk'
          have E1 := Lib.hid e1
          clear hk hk'
          obtain ⟨⟨r0, r1, r2⟩, f0, f1, f2⟩ := HZ2.out.facts
          go_wp2
          refine bodyPost_ret (v := .tuple #[.agg #[.int .i64 0, .int .i64 0, .string ⟨#[]⟩], .int .i64 0]) (by simp [results, Tryd.results23, go_sem, r0, r1, r2]) rfl ?_
          refine ⟨by rw [NV.out, NE.out, E0.out, E1.out]; rfl, ?_⟩
          repeat (first | exact HB2.out | refine below_store ?_ (by omega) _)
        · have e1 : (k' == 0) = false := by simpa using hk'
          have E1 := Lib.hid e1
          by_cases hkk : k = k'
          · have e2 : (k != k') = false := by simpa using hkk
            have E2 := Lib.hid e2
            clear hk hk' hkk
            go_wp2_with fail
            refine (HO.out HM.out HN.out _).mono ?_
            rintro e w3 ⟨rfl, hb3⟩
            have hz3 := hb3.size
            have HB3 := Lib.hid (below_trans HB2.out hb3)
            have HZ3 := Lib.hid (HZ2.out.below hb3 HZ2.out.lt)
            have HZL := HZ2.out.lt
            clear hb3
            have nv2 : holdV (ask i) ⟨k, n, s⟩ ⟨k', n', s'⟩ = ⟨3, bit (ask i (ord ⟨k, n, s⟩ ⟨k', n', s'⟩)), ⟨#[]⟩⟩ := by
              rw [NV.out, E0.out, E1.out, E2.out]; rfl
            have ne2 : holdE ⟨k, n, s⟩ ⟨k', n', s'⟩ = 0 := by rw [NE.out, E0.out, E1.out, E2.out]; rfl
            have NV2 := Lib.hid nv2
            have NE2 := Lib.hid ne2
            clear nv2 ne2 NV NE HO HM HN
            generalize ord ⟨k, n, s⟩ ⟨k', n', s'⟩ = c at NV2 ⊢
            have hi6 : i = 0 ∨ i = 1 ∨ i = 2 ∨ i = 3 ∨ i = 4 ∨ i = 5 := by omega
            rcases hi6 with hi6 | hi6 | hi6 | hi6 | hi6 | hi6
            · have ha : ask i c = (c == 0) := by
                rw [hi6]; rfl
              have i0 : ((i : Int) == 0) = true := by rw [hi6]; rfl
              have HA := Lib.hid ha
              clear ha hi6 hi
              go_wp2_with fail
              refine (truth_any _ _).mono ?_
              rintro e w4 ⟨rfl, hb4⟩
              have hz4 := hb4.size
              have HB4 := Lib.hid (below_trans HB3.out hb4)
              obtain ⟨⟨r0, r1, r2⟩, f0, f1, f2⟩ := (HZ3.out.below hb4 HZ3.out.lt).facts
              clear hb4
              go_wp2
              refine bodyPost_ret (v := .tuple #[.agg #[.int .i64 3, .int .i64 (bit (c == 0)), .string ⟨#[]⟩], .int .i64 0]) (by simp [results, Tryd.results23, go_sem, r0, r1, r2]) rfl ?_
              refine ⟨by rw [NV2.out, NE2.out, HA.out], ?_⟩
              repeat (first | exact HB4.out | refine below_store ?_ (by omega) _)
            · have ha : ask i c = (c != 0) := by
                rw [hi6]; rfl
              have i0 : ((i : Int) == 0) = false := by rw [hi6]; rfl
              have i1 : ((i : Int) == 1) = true := by rw [hi6]; rfl
              have HA := Lib.hid ha
              clear ha hi6 hi
              go_wp2_with fail
              refine (truth_any _ _).mono ?_
              rintro e w4 ⟨rfl, hb4⟩
              have hz4 := hb4.size
              have HB4 := Lib.hid (below_trans HB3.out hb4)
              obtain ⟨⟨r0, r1, r2⟩, f0, f1, f2⟩ := (HZ3.out.below hb4 HZ3.out.lt).facts
              clear hb4
              go_wp2
              refine bodyPost_ret (v := .tuple #[.agg #[.int .i64 3, .int .i64 (bit (c != 0)), .string ⟨#[]⟩], .int .i64 0]) (by simp [results, Tryd.results23, go_sem, r0, r1, r2]) rfl ?_
              refine ⟨by rw [NV2.out, NE2.out, HA.out], ?_⟩
              repeat (first | exact HB4.out | refine below_store ?_ (by omega) _)
            · have ha : ask i c = (decide (c < 0)) := by
                rw [hi6]; rfl
              have i0 : ((i : Int) == 0) = false := by rw [hi6]; rfl
              have i1 : ((i : Int) == 1) = false := by rw [hi6]; rfl
              have i2 : ((i : Int) == 2) = true := by rw [hi6]; rfl
              have HA := Lib.hid ha
              clear ha hi6 hi
              go_wp2_with fail
              refine (truth_any _ _).mono ?_
              rintro e w4 ⟨rfl, hb4⟩
              have hz4 := hb4.size
              have HB4 := Lib.hid (below_trans HB3.out hb4)
              obtain ⟨⟨r0, r1, r2⟩, f0, f1, f2⟩ := (HZ3.out.below hb4 HZ3.out.lt).facts
              clear hb4
              go_wp2
              refine bodyPost_ret (v := .tuple #[.agg #[.int .i64 3, .int .i64 (bit (decide (c < 0))), .string ⟨#[]⟩], .int .i64 0]) (by simp [results, Tryd.results23, go_sem, r0, r1, r2]) rfl ?_
              refine ⟨by rw [NV2.out, NE2.out, HA.out], ?_⟩
              repeat (first | exact HB4.out | refine below_store ?_ (by omega) _)
            · have ha : ask i c = (decide (c < 1)) := by
                rw [hi6]; show decide (c ≤ 0) = _; exact decide_eq_decide.2 (by omega)
              have i0 : ((i : Int) == 0) = false := by rw [hi6]; rfl
              have i1 : ((i : Int) == 1) = false := by rw [hi6]; rfl
              have i2 : ((i : Int) == 2) = false := by rw [hi6]; rfl
              have i3 : ((i : Int) == 3) = true := by rw [hi6]; rfl
              have HA := Lib.hid ha
              clear ha hi6 hi
              go_wp2_with fail
              refine (truth_any _ _).mono ?_
              rintro e w4 ⟨rfl, hb4⟩
              have hz4 := hb4.size
              have HB4 := Lib.hid (below_trans HB3.out hb4)
              obtain ⟨⟨r0, r1, r2⟩, f0, f1, f2⟩ := (HZ3.out.below hb4 HZ3.out.lt).facts
              clear hb4
              go_wp2
              refine bodyPost_ret (v := .tuple #[.agg #[.int .i64 3, .int .i64 (bit (decide (c < 1))), .string ⟨#[]⟩], .int .i64 0]) (by simp [results, Tryd.results23, go_sem, r0, r1, r2]) rfl ?_
              refine ⟨by rw [NV2.out, NE2.out, HA.out], ?_⟩
              repeat (first | exact HB4.out | refine below_store ?_ (by omega) _)
            · have ha : ask i c = (decide (c > 0)) := by
                rw [hi6]; rfl
              have i0 : ((i : Int) == 0) = false := by rw [hi6]; rfl
              have i1 : ((i : Int) == 1) = false := by rw [hi6]; rfl
              have i2 : ((i : Int) == 2) = false := by rw [hi6]; rfl
              have i3 : ((i : Int) == 3) = false := by rw [hi6]; rfl
              have i4 : ((i : Int) == 4) = true := by rw [hi6]; rfl
              have HA := Lib.hid ha
              clear ha hi6 hi
              go_wp2_with fail
              refine (truth_any _ _).mono ?_
              rintro e w4 ⟨rfl, hb4⟩
              have hz4 := hb4.size
              have HB4 := Lib.hid (below_trans HB3.out hb4)
              obtain ⟨⟨r0, r1, r2⟩, f0, f1, f2⟩ := (HZ3.out.below hb4 HZ3.out.lt).facts
              clear hb4
              go_wp2
              refine bodyPost_ret (v := .tuple #[.agg #[.int .i64 3, .int .i64 (bit (decide (c > 0))), .string ⟨#[]⟩], .int .i64 0]) (by simp [results, Tryd.results23, go_sem, r0, r1, r2]) rfl ?_
              refine ⟨by rw [NV2.out, NE2.out, HA.out], ?_⟩
              repeat (first | exact HB4.out | refine below_store ?_ (by omega) _)
            · have ha : ask i c = (decide (c > -1)) := by
                rw [hi6]; show decide (c ≥ 0) = _; exact decide_eq_decide.2 (by omega)
              have i0 : ((i : Int) == 0) = false := by rw [hi6]; rfl
              have i1 : ((i : Int) == 1) = false := by rw [hi6]; rfl
              have i2 : ((i : Int) == 2) = false := by rw [hi6]; rfl
              have i3 : ((i : Int) == 3) = false := by rw [hi6]; rfl
              have i4 : ((i : Int) == 4) = false := by rw [hi6]; rfl
              have HA := Lib.hid ha
              clear ha hi6 hi
              go_wp2_with fail
              refine (truth_any _ _).mono ?_
              rintro e w4 ⟨rfl, hb4⟩
              have hz4 := hb4.size
              have HB4 := Lib.hid (below_trans HB3.out hb4)
              obtain ⟨⟨r0, r1, r2⟩, f0, f1, f2⟩ := (HZ3.out.below hb4 HZ3.out.lt).facts
              clear hb4
              go_wp2
              refine bodyPost_ret (v := .tuple #[.agg #[.int .i64 3, .int .i64 (bit (decide (c > -1))), .string ⟨#[]⟩], .int .i64 0]) (by simp [results, Tryd.results23, go_sem, r0, r1, r2]) rfl ?_
              refine ⟨by rw [NV2.out, NE2.out, HA.out], ?_⟩
              repeat (first | exact HB4.out | refine below_store ?_ (by omega) _)
          · have e2 : (k != k') = true := by simpa using hkk
            have E2 := Lib.hid e2
            clear hk hk' hkk
            obtain ⟨⟨r0, r1, r2⟩, f0, f1, f2⟩ := HZ2.out.facts
            go_wp2
            refine bodyPost_ret (v := .tuple #[.agg #[.int .i64 0, .int .i64 0, .string ⟨#[]⟩], .int .i64 30]) (by simp [results, Tryd.results23, go_sem, r0, r1, r2]) rfl ?_
            refine ⟨by rw [NV.out, NE.out, E0.out, E1.out, E2.out]; rfl, ?_⟩
            repeat (first | exact HB2.out | refine below_store ?_ (by omega) _)
end Go.Proofs.YtjfpkjpicalfmaaDoor
