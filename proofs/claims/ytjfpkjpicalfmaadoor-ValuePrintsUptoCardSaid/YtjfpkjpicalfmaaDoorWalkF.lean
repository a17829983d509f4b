/-
  THE WALKS OF Compare, the program's and the document's; of the six comparisons.
-/
import Derived.Test.YtjfpkjpicalfmaaDoorWalkE
namespace Go.Proofs.YtjfpkjpicalfmaaDoor
open Go.RowKit Go.Sort
attribute [local go_sem high] run_eq23 run_neq23 run_eq9

theorem Vs.two (w : World) (a b : V) : Vs (w.alloc (.cells #[.int .i64 a.k, .int .i64 a.n, .string a.s, .int .i64 b.k, .int .i64 b.n, .string b.s] 23)) w.heap.size [a, b] := by
  intro i v hv
  have hi : i = 0 ∨ i = 1 := by
    have : i < 2 := by
      rcases Nat.lt_or_ge i 2 with h | h
      · exact h
      · rw [List.getElem?_eq_none (by simpa using h)] at hv; cases hv
    omega
  rcases hi with rfl | rfl
  · simp at hv; subst hv
    refine ⟨?_, ?_, ?_⟩ <;> go_simp
  · simp at hv; subst hv
    refine ⟨?_, ?_, ?_⟩ <;> go_simp
theorem Vs.one (w : World) (a : V) : Vs (w.alloc (.cells #[.int .i64 a.k, .int .i64 a.n, .string a.s] 23)) w.heap.size [a] := by
  intro i v hv
  have hi : i = 0 := by
    have : i < 1 := by
      rcases Nat.lt_or_ge i 1 with h | h
      · exact h
      · rw [List.getElem?_eq_none (by simpa using h)] at hv; cases hv
    omega
  subst hi
  simp at hv; subst hv
  refine ⟨?_, ?_, ?_⟩ <;> go_simp

/-- Compare's two answers -/
def cmpV (a b : V) : Int := if a.may && b.may then ord a b else 0
def cmpE (a b : V) : Int := if a.may && b.may then 0 else 5
/-- the two boxes of a call's arguments, behind whatever made new memory -/
def M2 (w : World) (a b : V) : World := (w.alloc (.cells #[.int .i64 a.k, .int .i64 a.n, .string a.s] 23)).alloc (.cells #[.int .i64 b.k, .int .i64 b.n, .string b.s] 23)
theorem two_boxes {w w' : World} {a b : V} {B : Nat} (h : Below B (M2 w a b) w') (hB : w.heap.size + 2 ≤ B) :
    (w'.cell? ⟨w.heap.size, 0, none⟩ = some (.int .i64 a.k) ∧ w'.cell? ⟨w.heap.size, 1, none⟩ = some (.int .i64 a.n) ∧ w'.cell? ⟨w.heap.size, 2, none⟩ = some (.string a.s)) ∧
    (w'.cell? ⟨w.heap.size + 1, 0, none⟩ = some (.int .i64 b.k) ∧ w'.cell? ⟨w.heap.size + 1, 1, none⟩ = some (.int .i64 b.n) ∧ w'.cell? ⟨w.heap.size + 1, 2, none⟩ = some (.string b.s)) ∧
    Below w.heap.size w w' ∧ w.heap.size + 1 < w'.heap.size := by
  obtain ⟨c0, c1, c2⟩ := ((Box.new w a.k a.n a.s).alloc (.cells #[.int .i64 b.k, .int .i64 b.n, .string b.s] 23)).below h (by omega)
  obtain ⟨d0, d1, d2⟩ := (Box.new (w.alloc (.cells #[.int .i64 a.k, .int .i64 a.n, .string a.s] 23)) b.k b.n b.s).below h (by simp; omega)
  rw [World.size_alloc] at d0 d1 d2
  refine ⟨⟨c0, c1, c2⟩, ⟨d0, d1, d2⟩, (below_two w _ _ 0).trans (h.mono (by omega)), ?_⟩
  have := h.size
  simp [M2] at this
  omega
theorem below_new {B : Nat} {a w : World} (h : Below B a w) (hB : B ≤ w.heap.size) (o : Obj) : Below B a (w.alloc o) := h.alloc hB o

set_option maxHeartbeats 1000000 in
theorem compare_any (a b : V) (hsa : a.s.size ≤ 9223372036854775807) (hsb : b.s.size ≤ 9223372036854775807) (w : World) :
    Calls Tryd.prog 12 #[.agg #[.int .i64 a.k, .int .i64 a.n, .string a.s], .agg #[.int .i64 b.k, .int .i64 b.n, .string b.s]] w fun e w' => e = .returned (.tuple #[.int .i64 (cmpV a b), .int .i64 (cmpE a b)]) ∧ Below w.heap.size w w' := by
  have HV := Vs.two (M2 w a b) a b
  have HC := Lib.hid (allMay_any _ [a, b] 2 _ HV (by simp) rfl (by omega) (by simp; exact ⟨hsa, hsb⟩))
  have HO := Lib.hid (order_any a b)
  have HT := Lib.hid (fun (w' : World) (h : Below (w.heap.size + 2) (M2 w a b) w') => two_boxes h (Nat.le_refl _))
  clear HV hsa hsb
  unfold M2 at HC
  simp only [World.size_alloc, Nat.add_assoc, Nat.reduceAdd] at HC
  have HA : Hid ([a, b].all V.may = (a.may && b.may)) := by show [a, b].all V.may = (a.may && b.may); simp
  have HV1 : Hid (cmpV a b = if a.may && b.may then ord a b else 0) := rfl
  have HE1 : Hid (cmpE a b = if a.may && b.may then 0 else 5) := rfl
  generalize hab : (a.may && b.may) = ab at HA HV1 HE1
  clear hab
  obtain ⟨k, n, s⟩ := a
  obtain ⟨k', n', s'⟩ := b
  simp only at HC HO HT ⊢
  go_enter Tryd.func12, Tryd.ntmps12
  go_wp2_with fail
  refine HC.out.mono ?_
  rintro e w1 ⟨rfl, hb1⟩
  have hbb := HT.out w1 (((Below.refl _ _).alloc (by simp [M2]) _).trans (hb1.mono (by omega)))
  obtain ⟨⟨c0, c1, c2⟩, ⟨d0, d1, d2⟩, hbel, hz⟩ := hbb
  have HB := Lib.hid hbel
  clear hb1 hbel
  rw [HA.out]
  cases ab
  · go_wp2
    go_ret2
    exact ⟨by rw [HV1.out, HE1.out]; rfl, HB.out⟩
  · go_wp2_with fail
    refine (HO.out _).mono ?_
    rintro e w2 ⟨rfl, hb2⟩
    have HB2 := Lib.hid (below_trans HB.out hb2)
    clear hb2
    go_wp2
    go_ret2
    exact ⟨by rw [HV1.out, HE1.out]; rfl, HB2.out⟩

set_option maxHeartbeats 1000000 in
theorem rcompare_any (a b : V) (hsa : a.s.size ≤ 9223372036854775807) (hsb : b.s.size ≤ 9223372036854775807) (w : World) :
    Calls Tryd.prog 13 #[.agg #[.int .i64 a.k, .int .i64 a.n, .string a.s], .agg #[.int .i64 b.k, .int .i64 b.n, .string b.s]] w fun e w' => e = .returned (.tuple #[.int .i64 (cmpV a b), .int .i64 (cmpE a b)]) ∧ Below w.heap.size w w' := by
  have HC1 := Lib.hid (rmay_any a.k a.n a.s hsa)
  have HC2 := Lib.hid (rmay_any b.k b.n b.s hsb)
  have HO := Lib.hid (fun ha hb => rorder_any a b ha hb hsa hsb)
  have HT := Lib.hid (fun (w' : World) (h : Below (w.heap.size + 2) (M2 w a b) w') => two_boxes h (Nat.le_refl _))
  clear hsa hsb
  have HV1 : Hid (cmpV a b = if a.may && b.may then ord a b else 0) := rfl
  have HE1 : Hid (cmpE a b = if a.may && b.may then 0 else 5) := rfl
  have ema : V.may a = may a.k a.n a.s := rfl
  have emb : V.may b = may b.k b.n b.s := rfl
  rw [ema, emb] at HV1 HE1 HO
  clear ema emb
  obtain ⟨k, n, s⟩ := a
  obtain ⟨k', n', s'⟩ := b
  simp only at HC1 HC2 HO HT HV1 HE1 ⊢
  go_enter Tryd.func13, Tryd.ntmps13
  go_wp2_with fail
  refine (HC1.out _).mono ?_
  rintro e w1 ⟨rfl, hb1⟩
  obtain ⟨⟨c0, c1, c2⟩, ⟨d0, d1, d2⟩, hbel, hz⟩ := HT.out w1 (hb1.mono (by simp))
  have HB := Lib.hid hbel
  have HB1 := Lib.hid hb1
  clear hb1 hbel
  cases hma : may k n s
  · have HM := Lib.hid hma
    clear hma
    go_wp2
    go_ret2
    exact ⟨by rw [HV1.out, HE1.out, HM.out]; rfl, HB.out⟩
  · have HM := Lib.hid hma
    clear hma
    go_wp2_with fail
    refine (HC2.out _).mono ?_
    rintro e w2 ⟨rfl, hb2⟩
    have hT2 := HT.out w2 ((HB1.out.mono (by simp)).trans (hb2.mono (by omega)))
    clear c0 c1 c2 d0 d1 d2
    obtain ⟨⟨c0, c1, c2⟩, ⟨d0, d1, d2⟩, hbel, hz2⟩ := hT2
    have HB2 := Lib.hid hbel
    clear hb2 hbel
    cases hmb : may k' n' s'
    · have HN := Lib.hid hmb
      clear hmb
      go_wp2
      go_ret2
      exact ⟨by rw [HV1.out, HE1.out, HM.out, HN.out]; rfl, HB2.out⟩
    · have HN := Lib.hid hmb
      clear hmb
      go_wp2_with fail
      refine (HO.out HM.out HN.out _).mono ?_
      rintro e w3 ⟨rfl, hb3⟩
      have HB3 := Lib.hid (below_trans HB2.out hb3)
      clear hb3
      go_wp2
      go_ret2
      exact ⟨by rw [HV1.out, HE1.out, HM.out, HN.out]; rfl, HB3.out⟩
end Go.Proofs.YtjfpkjpicalfmaaDoor
