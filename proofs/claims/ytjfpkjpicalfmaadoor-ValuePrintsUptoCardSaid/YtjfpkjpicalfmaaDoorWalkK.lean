/-
  THE WALKS OF decided, And, Or, Not.
-/
import Derived.Test.YtjfpkjpicalfmaaDoorThree
namespace Go.Proofs.YtjfpkjpicalfmaaDoor
open Go.RowKit Go.Sort
attribute [local go_sem high] run_eq23 run_neq23 run_eq9

def V.is (v u : V) : Bool := veq v.k v.n v.s u.k u.n u.s
/-- And (d is false), Or (d is true) -/
def decV (d : Bool) (a b : V) : V :=
  if want 3 [a, b] = 0 then (if a.is ⟨3, bit d, ⟨#[]⟩⟩ || b.is ⟨3, bit d, ⟨#[]⟩⟩ then ⟨3, bit d, ⟨#[]⟩⟩ else if a.isNull || b.isNull then ⟨0, 0, ⟨#[]⟩⟩ else ⟨3, bit (!d), ⟨#[]⟩⟩) else ⟨0, 0, ⟨#[]⟩⟩
theorem Boxes.below {w w' : World} {B r : Nat} {k n : Int} {s : ByteArray} {k' n' : Int} {s' : ByteArray} (h : Boxes w r k n s k' n' s') (hb : Below B w w') (hr : r + 1 < B) : Boxes w' r k n s k' n' s' := by
  obtain ⟨c0, c1, c2, d0, d1, d2⟩ := h
  have hc : ∀ b o, b < B → w'.cell? ⟨b, o, none⟩ = w.cell? ⟨b, o, none⟩ := fun b o h => hb.cell (p := ⟨b, o, none⟩) h
  exact ⟨(hc _ _ (by omega)).trans c0, (hc _ _ (by omega)).trans c1, (hc _ _ (by omega)).trans c2, (hc _ _ (by omega)).trans d0, (hc _ _ (by omega)).trans d1, (hc _ _ (by omega)).trans d2⟩

set_option maxRecDepth 100000 in
set_option maxHeartbeats 2000000 in
theorem decided_any (a b : V) (d : Bool) (hsa : a.s.size ≤ 9223372036854775807) (hsb : b.s.size ≤ 9223372036854775807) (w : World) :
    Calls Tryd.prog 61 #[.agg #[.int .i64 a.k, .int .i64 a.n, .string a.s], .agg #[.int .i64 b.k, .int .i64 b.n, .string b.s], .bool d] w fun e w' =>
      e = .returned (.tuple #[.agg #[.int .i64 (decV d a b).k, .int .i64 (decV d a b).n, .string (decV d a b).s], .int .i64 (want 3 [a, b])]) ∧ Below w.heap.size w w' := by
  have HV := Vs.two (M3 w a b) a b
  have HC := Lib.hid (wanted_any 3 _ [a, b] 2 _ HV (by simp) rfl (by omega) (by simp; exact ⟨hsa, hsb⟩))
  have HN := Lib.hid (fun (W : World) => anyNull_any W.heap.size [a, b] 2 _ (Vs.two W a b) (by simp) rfl (by omega))
  have HT := Lib.hid (fun (w' : World) (h : Below (w.heap.size + 3) (M3 w a b) w') => three_boxes h (Nat.le_refl _))
  clear HV hsa hsb
  unfold M3 M2 at HC
  simp only [World.size_alloc, Nat.add_assoc, Nat.reduceAdd] at HC
  have HU : Hid ([a, b].any V.isNull = (a.isNull || b.isNull)) := by show [a, b].any V.isNull = (a.isNull || b.isNull); simp
  have HV1 : Hid (decV d a b = if want 3 [a, b] = 0 then (if a.is ⟨3, bit d, ⟨#[]⟩⟩ || b.is ⟨3, bit d, ⟨#[]⟩⟩ then ⟨3, bit d, ⟨#[]⟩⟩ else if a.isNull || b.isNull then ⟨0, 0, ⟨#[]⟩⟩ else ⟨3, bit (!d), ⟨#[]⟩⟩) else ⟨0, 0, ⟨#[]⟩⟩) := rfl
  have ea : a.is ⟨3, bit d, ⟨#[]⟩⟩ = veq a.k a.n a.s 3 (bit d) ⟨#[]⟩ := rfl
  have eb : b.is ⟨3, bit d, ⟨#[]⟩⟩ = veq b.k b.n b.s 3 (bit d) ⟨#[]⟩ := rfl
  rw [ea, eb] at HV1
  clear ea eb
  generalize hnn : (a.isNull || b.isNull) = nn at HU HV1
  generalize hww : want 3 [a, b] = ww at HC HV1 ⊢
  clear hnn hww
  obtain ⟨k, n, s⟩ := a
  obtain ⟨k', n', s'⟩ := b
  simp only at HC HN HT HV1 ⊢
  go_enter Tryd.func61, Tryd.ntmps61
  go_wp2_with fail
  refine HC.out.mono ?_
  rintro e w1 ⟨rfl, hb1⟩
  obtain ⟨K1, Z1, B1, hz1⟩ := HT.out w1 ((((Below.refl _ _).alloc (by simp [M3, M2]) _)).trans (hb1.mono (by simp)))
  have HK1 := Lib.hid K1
  have HZ1 := Lib.hid Z1
  have HB1 := Lib.hid B1
  clear hb1 K1 Z1 B1 HT HC
  by_cases hww : ww = 0
  · have hne : (ww != 0) = false := by simpa using hww
    have HV2 : Hid (decV d ⟨k, n, s⟩ ⟨k', n', s'⟩ = if veq k n s 3 (bit d) ⟨#[]⟩ || veq k' n' s' 3 (bit d) ⟨#[]⟩ then ⟨3, bit d, ⟨#[]⟩⟩ else if nn then ⟨0, 0, ⟨#[]⟩⟩ else ⟨3, bit (!d), ⟨#[]⟩⟩) := by
      show decV d ⟨k, n, s⟩ ⟨k', n', s'⟩ = _
      rw [HV1.out, if_pos hww]
    have HW := Lib.hid hww
    clear hww HV1
    go_wp2_with fail
    refine (ofBool_any _ _).mono ?_
    rintro e w2 ⟨rfl, hb2⟩
    have hz2 := hb2.size
    have hbx : Below w2.heap.size w2 (w2.alloc (.cells #[.int .i64 3, .int .i64 (bit d), .string ⟨#[]⟩] 23)) := (Below.refl _ _).alloc (Nat.le_refl _) _
    have hb3 := below_trans hb2 hbx
    have HB3 := Lib.hid (below_trans HB1.out hb3)
    have Z3 := HZ1.out.below hb3 HZ1.out.lt
    have HZ3 := Lib.hid Z3
    have K3 := HK1.out.below hb3 (by omega)
    have HK3 := Lib.hid K3
    obtain ⟨c0, c1, c2, d0, d1, d2⟩ := K3
    obtain ⟨⟨r0, r1, r2⟩, f0, f1, f2⟩ := Z3.facts
    clear hb2 hb3 hbx Z3
    cases hv1 : veq k n s 3 (bit d) ⟨#[]⟩
    · cases hv2 : veq k' n' s' 3 (bit d) ⟨#[]⟩
      · have HV3 : Hid (decV d ⟨k, n, s⟩ ⟨k', n', s'⟩ = if nn then ⟨0, 0, ⟨#[]⟩⟩ else ⟨3, bit (!d), ⟨#[]⟩⟩) := by
          show decV d ⟨k, n, s⟩ ⟨k', n', s'⟩ = _
          rw [HV2.out, hv1, hv2]; rfl
        have hN := HN.out (w2.alloc (.cells #[.int .i64 3, .int .i64 (bit d), .string ⟨#[]⟩] 23))
        simp only [World.size_alloc] at hN
        have HN2 := Lib.hid hN
        clear hN
        go_wp2_with fail
        refine HN2.out.mono ?_
        rintro e w4 ⟨rfl, hb4⟩
        have hb5 : Below (w2.alloc (.cells #[.int .i64 3, .int .i64 (bit d), .string ⟨#[]⟩] 23)).heap.size (w2.alloc (.cells #[.int .i64 3, .int .i64 (bit d), .string ⟨#[]⟩] 23)) w4 :=
          ((Below.refl _ _).alloc (Nat.le_refl _) _).trans (hb4.mono (by simp))
        have hz4 := hb5.size
        simp only [World.size_alloc] at hz4
        have HB5 := Lib.hid (below_trans HB3.out hb5)
        have Z5 := HZ3.out.below hb5 HZ3.out.lt
        have HZ5 := Lib.hid Z5
        clear hb4 hb5 c0 c1 c2 d0 d1 d2 r0 r1 r2 f0 f1 f2
        rw [HU.out]
        cases nn
        · obtain ⟨⟨r0, r1, r2⟩, f0, f1, f2⟩ := Z5.facts
          clear Z5 r0 r1 r2 f0 f1 f2
          go_wp2_with fail
          refine (ofBool_any _ _).mono ?_
          rintro e w6 ⟨rfl, hb6⟩
          have hz6 := hb6.size
          have HB6 := Lib.hid (below_trans HB5.out hb6)
          obtain ⟨⟨r0, r1, r2⟩, f0, f1, f2⟩ := (HZ5.out.below hb6 HZ5.out.lt).facts
          clear hb6
          go_wp2
          refine bodyPost_ret (v := .tuple #[.agg #[.int .i64 3, .int .i64 (bit (!d)), .string ⟨#[]⟩], .int .i64 ww]) (by simp [results, Tryd.results61, go_sem, r0, r1, r2, HW.out]) rfl ?_
          refine ⟨by rw [HV3.out]; rfl, ?_⟩
          repeat (first | exact HB6.out | refine below_store ?_ (by omega) _)
        · obtain ⟨⟨r0, r1, r2⟩, f0, f1, f2⟩ := Z5.facts
          clear Z5
          go_wp2
          refine bodyPost_ret (v := .tuple #[.agg #[.int .i64 0, .int .i64 0, .string ⟨#[]⟩], .int .i64 ww]) (by simp [results, Tryd.results61, go_sem, r0, r1, r2, HW.out]) rfl ?_
          refine ⟨by rw [HV3.out]; rfl, ?_⟩
          repeat (first | exact HB5.out | refine below_store ?_ (by omega) _)
      · have HVV : Hid (decV d ⟨k, n, s⟩ ⟨k', n', s'⟩ = ⟨3, bit d, ⟨#[]⟩⟩) := by
          show decV d ⟨k, n, s⟩ ⟨k', n', s'⟩ = _
          rw [HV2.out, hv1, hv2]; rfl
        go_wp2
        refine bodyPost_ret (v := .tuple #[.agg #[.int .i64 3, .int .i64 (bit d), .string ⟨#[]⟩], .int .i64 ww]) (by simp [results, Tryd.results61, go_sem, r0, r1, r2, HW.out]) rfl ?_
        refine ⟨by rw [HVV.out], ?_⟩
        repeat (first | exact HB3.out | refine below_store ?_ (by omega) _)
    · have HVV : Hid (decV d ⟨k, n, s⟩ ⟨k', n', s'⟩ = ⟨3, bit d, ⟨#[]⟩⟩) := by
        show decV d ⟨k, n, s⟩ ⟨k', n', s'⟩ = _
        rw [HV2.out, hv1]; rfl
      go_wp2
      refine bodyPost_ret (v := .tuple #[.agg #[.int .i64 3, .int .i64 (bit d), .string ⟨#[]⟩], .int .i64 ww]) (by simp [results, Tryd.results61, go_sem, r0, r1, r2, HW.out]) rfl ?_
      refine ⟨by rw [HVV.out], ?_⟩
      repeat (first | exact HB3.out | refine below_store ?_ (by omega) _)
  · have hne : (ww != 0) = true := by simpa using hww
    have HVV : Hid (decV d ⟨k, n, s⟩ ⟨k', n', s'⟩ = ⟨0, 0, ⟨#[]⟩⟩) := by
      show decV d ⟨k, n, s⟩ ⟨k', n', s'⟩ = _
      rw [HV1.out, if_neg hww]
    obtain ⟨⟨r0, r1, r2⟩, f0, f1, f2⟩ := HZ1.out.facts
    clear hww
    go_wp2
    refine bodyPost_ret (v := .tuple #[.agg #[.int .i64 0, .int .i64 0, .string ⟨#[]⟩], .int .i64 ww]) (by simp [results, Tryd.results61, go_sem, r0, r1, r2]) rfl ?_
    refine ⟨by rw [HVV.out], ?_⟩
    repeat (first | exact HB1.out | refine below_store ?_ (by omega) _)
end Go.Proofs.YtjfpkjpicalfmaaDoor
