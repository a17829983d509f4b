/-
  THE WALKS OF the six comparisons: the closure that each is made from.
-/
import Derived.Test.YtjfpkjpicalfmaaDoorWalkF
namespace Go.Proofs.YtjfpkjpicalfmaaDoor
open Go.RowKit Go.Sort
attribute [local go_sem high] run_eq23 run_neq23 run_eq9

theorem comparison_any (f : Fn) (w : World) : Calls Tryd.prog 53 #[.func f #[] #[]] w fun e w' => e = .returned (.func (.func 89) #[] #[.pointer (some ⟨w.heap.size, 0, none⟩)]) ∧ w' = w.alloc (.cells #[.func f #[] #[]] 48) := by
  go_enter Tryd.func53, Tryd.ntmps53
  go_wp2
  go_ret
  exact ⟨rfl, rfl⟩
theorem asked0 (n : Int) (w : World) : Calls Tryd.prog 54 #[.int .i64 n] w fun e w' => e = .returned (.bool (n == 0)) ∧ w' = w := by
  go_enter Tryd.func54, Tryd.ntmps54
  go_wp2
  go_ret
  exact ⟨rfl, rfl⟩
theorem asked1 (n : Int) (w : World) : Calls Tryd.prog 55 #[.int .i64 n] w fun e w' => e = .returned (.bool (n != 0)) ∧ w' = w := by
  go_enter Tryd.func55, Tryd.ntmps55
  go_wp2
  go_ret
  exact ⟨rfl, rfl⟩
theorem asked2 (n : Int) (w : World) : Calls Tryd.prog 56 #[.int .i64 n] w fun e w' => e = .returned (.bool (decide (n < 0))) ∧ w' = w := by
  go_enter Tryd.func56, Tryd.ntmps56
  go_wp2
  go_ret
  exact ⟨rfl, rfl⟩
theorem asked3 (n : Int) (w : World) : Calls Tryd.prog 57 #[.int .i64 n] w fun e w' => e = .returned (.bool (decide (n ≤ 0))) ∧ w' = w := by
  go_enter Tryd.func57, Tryd.ntmps57
  go_wp2
  go_ret
  exact ⟨rfl, rfl⟩
theorem asked4 (n : Int) (w : World) : Calls Tryd.prog 58 #[.int .i64 n] w fun e w' => e = .returned (.bool (decide (n > 0))) ∧ w' = w := by
  go_enter Tryd.func58, Tryd.ntmps58
  go_wp2
  go_ret
  exact ⟨rfl, rfl⟩
theorem asked5 (n : Int) (w : World) : Calls Tryd.prog 59 #[.int .i64 n] w fun e w' => e = .returned (.bool (decide (n ≥ 0))) ∧ w' = w := by
  go_enter Tryd.func59, Tryd.ntmps59
  go_wp2
  go_ret
  exact ⟨rfl, rfl⟩

/-- the cell of the result, as it is made -/
def Zero (w : World) (r : Nat) : Prop := w.heap[r]? = some (.cells #[.int .i64 0, .int .i64 0, .string ⟨#[]⟩] 23 (0, 0))
theorem Zero.new (w : World) : Zero (w.alloc (.cells #[.int .i64 0, .int .i64 0, .string ⟨#[]⟩] 23)) w.heap.size := heap_alloc_new w _
theorem Zero.below {w w' : World} {B r : Nat} (h : Zero w r) (hb : Below B w w') (hr : r < B) : Zero w' r := (hb.block r hr).trans h
theorem Zero.lt {w : World} {r : Nat} (h : Zero w r) : r < w.heap.size := by
  rcases Nat.lt_or_ge r w.heap.size with hlt | hge
  · exact hlt
  · unfold Zero at h; rw [Array.getElem?_eq_none hge] at h; cases h
theorem Zero.facts {w : World} {r : Nat} (h : Zero w r) : (w.cell? ⟨r, 0, none⟩ = some (.int .i64 0) ∧ w.cell? ⟨r, 1, none⟩ = some (.int .i64 0) ∧ w.cell? ⟨r, 2, none⟩ = some (.string ⟨#[]⟩)) ∧ (w.frozen? ⟨r, 0, none⟩ = false ∧ w.frozen? ⟨r, 1, none⟩ = false ∧ w.frozen? ⟨r, 2, none⟩ = false) := by
  have hc := fun i => cell_of_row w r i _ 23 (0, 0) h
  refine ⟨⟨hc 0, hc 1, hc 2⟩, ?_, ?_, ?_⟩ <;> (unfold Zero at h; simp [World.frozen?, h])

theorem below_store {B : Nat} {a w : World} (h : Below B a w) {b o : Nat} (hb : B ≤ b) (v : Value) : Below B a (w.setCell ⟨b, o, none⟩ v) := h.setCell hb v
theorem st3 {w : World} {g i r : Nat} {v : Option Value} {a b c : Value} (h : w.cell? ⟨g, i, none⟩ = v) (hne : g ≠ r) : (((w.setCell ⟨r, 0, none⟩ a).setCell ⟨r, 1, none⟩ b).setCell ⟨r, 2, none⟩ c).cell? ⟨g, i, none⟩ = v := by
  have hs : ∀ (W : World) (j : Nat) (u : Value), (W.setCell ⟨r, j, none⟩ u).cell? ⟨g, i, none⟩ = W.cell? ⟨g, i, none⟩ := fun W j u => by
    apply World.cell?_setCell_other
    intro e
    injection e with e1
    omega
  rw [hs, hs, hs, h]
theorem bcell {W w1 : World} (hb : Below W.heap.size W w1) : (∀ b o, b < W.heap.size → w1.cell? ⟨b, o, none⟩ = W.cell? ⟨b, o, none⟩) ∧ (∀ b o, b < W.heap.size → w1.frozen? ⟨b, o, none⟩ = W.frozen? ⟨b, o, none⟩) :=
  ⟨fun b o h => hb.cell (p := ⟨b, o, none⟩) h, fun b o h => hb.frozen (p := ⟨b, o, none⟩) h⟩

/-- what a comparison answers -/
def holdV (p : Int → Bool) (a b : V) : V :=
  if a.may && b.may then (if a.isNull || b.isNull then ⟨0, 0, ⟨#[]⟩⟩ else if a.k != b.k then ⟨0, 0, ⟨#[]⟩⟩ else ⟨3, bit (p (ord a b)), ⟨#[]⟩⟩) else ⟨0, 0, ⟨#[]⟩⟩
def holdE (a b : V) : Int := if a.may && b.may then (if a.isNull || b.isNull then 0 else if a.k != b.k then 30 else 0) else 5

set_option maxRecDepth 100000 in
set_option maxHeartbeats 2000000 in
theorem closure_any (g : Nat) (p : Int → Bool) (hcf : ∀ args w, (callFunc g args).run Tryd.prog w = .ok (.enter g args) w) (hp : ∀ n w, Calls Tryd.prog g #[.int .i64 n] w fun e w' => e = .returned (.bool (p n)) ∧ w' = w)
    (a b : V) (hsa : a.s.size ≤ 9223372036854775807) (hsb : b.s.size ≤ 9223372036854775807) (c : Nat) (w : World) (hcl : c < w.heap.size) (hc : w.cell? ⟨c, 0, none⟩ = some (.func (.func g) #[] #[])) :
    Calls Tryd.prog 89 #[.agg #[.int .i64 a.k, .int .i64 a.n, .string a.s], .agg #[.int .i64 b.k, .int .i64 b.n, .string b.s], .pointer (some ⟨c, 0, none⟩)] w fun e w' =>
      e = .returned (.tuple #[.agg #[.int .i64 (holdV p a b).k, .int .i64 (holdV p a b).n, .string (holdV p a b).s], .int .i64 (holdE a b)]) ∧ Below w.heap.size w w' := by
  have HP := Lib.hid hp
  have HV := Vs.two ((M2 w a b).alloc (.cells #[.int .i64 0, .int .i64 0, .string ⟨#[]⟩] 23)) a b
  have HC := Lib.hid (allMay_any _ [a, b] 2 _ HV (by simp) rfl (by omega) (by simp; exact ⟨hsa, hsb⟩))
  have HN := Lib.hid (fun (W : World) => anyNull_any W.heap.size [a, b] 2 _ (Vs.two W a b) (by simp) rfl (by omega))
  have HO := Lib.hid (order_any a b)
  have HT := Lib.hid (fun (w' : World) (h : Below (w.heap.size + 2) (M2 w a b) w') => two_boxes h (Nat.le_refl _))
  clear HV hsa hsb hp
  unfold M2 at HC
  simp only [World.size_alloc, Nat.add_assoc, Nat.reduceAdd] at HC
  have HA : Hid ([a, b].all V.may = (a.may && b.may)) := by show [a, b].all V.may = (a.may && b.may); simp
  have HU : Hid ([a, b].any V.isNull = (a.isNull || b.isNull)) := by show [a, b].any V.isNull = (a.isNull || b.isNull); simp
  have HV1 : Hid (holdV p a b = if a.may && b.may then (if a.isNull || b.isNull then ⟨0, 0, ⟨#[]⟩⟩ else if a.k != b.k then ⟨0, 0, ⟨#[]⟩⟩ else ⟨3, bit (p (ord a b)), ⟨#[]⟩⟩) else ⟨0, 0, ⟨#[]⟩⟩) := rfl
  have HE1 : Hid (holdE a b = if a.may && b.may then (if a.isNull || b.isNull then 0 else if a.k != b.k then 30 else 0) else 5) := rfl
  generalize hab : (a.may && b.may) = ab at HA HV1 HE1
  generalize hnn : (a.isNull || b.isNull) = nn at HU HV1 HE1
  clear hab hnn
  obtain ⟨k, n, s⟩ := a
  obtain ⟨k', n', s'⟩ := b
  simp only at HC HO HT HN HV1 HE1 ⊢
  have HCC := Lib.hid hc
  go_enter Tryd.func89, Tryd.ntmps89
  go_wp2_with fail
  refine HC.out.mono ?_
  rintro e w1 ⟨rfl, hb1⟩
  have hbb := HT.out w1 ((((Below.refl _ _).alloc (by simp [M2]) _).alloc (by simp [M2]) _).trans (hb1.mono (by omega)))
  obtain ⟨⟨c0, c1, c2⟩, ⟨d0, d1, d2⟩, hbel, hz⟩ := hbb
  have hzr := ((Zero.new (M2 w ⟨k, n, s⟩ ⟨k', n', s'⟩)).below (((Below.refl _ _).alloc (Nat.le_refl _) _)) (by simp)).below hb1 (by simp [M2])
  have HB := Lib.hid hbel
  have HZ := Lib.hid hzr
  clear hb1 hbel hzr
  rw [HA.out]
  cases ab
  · obtain ⟨⟨r0, r1, r2⟩, f0, f1, f2⟩ := HZ.out.facts
    simp only [M2, World.size_alloc, Nat.add_assoc, Nat.reduceAdd] at r0 r1 r2 f0 f1 f2
    go_wp2
    refine bodyPost_ret (v := .tuple #[.agg #[.int .i64 0, .int .i64 0, .string ⟨#[]⟩], .int .i64 5]) (by simp [results, Tryd.results89, go_sem, r0, r1, r2]) rfl ?_
    refine ⟨by rw [HV1.out, HE1.out]; rfl, ?_⟩
    repeat (first | exact HB.out | refine below_store ?_ (by omega) _)
  · have hz1 := HZ.out.lt
    simp only [M2, World.size_alloc, Nat.add_assoc, Nat.reduceAdd] at hz1
    have hcc := (HB.out.cell (p := ⟨c, 0, none⟩) hcl).trans HCC.out
    have HHC := Lib.hid hcc
    go_wp2_with fail
    refine (HN.out w1).mono ?_
    rintro e w2 ⟨rfl, hb2⟩
    have hb12 : Below w1.heap.size w1 w2 := ((Below.refl _ _).alloc (Nat.le_refl _) _).trans (hb2.mono (by simp))
    obtain ⟨hc12, hf12⟩ := bcell hb12
    have hz2 := hb12.size
    have HB2 := Lib.hid (below_trans HB.out hb12)
    have hzr := HZ.out.below hb12 HZ.out.lt
    simp only [M2, World.size_alloc, Nat.add_assoc, Nat.reduceAdd] at hzr
    have HZ2 := Lib.hid hzr
    have g0 := (hc12 _ 0 (by omega)).trans c0
    have g1 := (hc12 _ 1 (by omega)).trans c1
    have g2 := (hc12 _ 2 (by omega)).trans c2
    have k0 := (hc12 _ 0 (by omega)).trans d0
    have k1 := (hc12 _ 1 (by omega)).trans d1
    have k2 := (hc12 _ 2 (by omega)).trans d2
    have kc := (hc12 c 0 (by omega)).trans hcc
    clear hb2 hb12 c0 c1 c2 d0 d1 d2 hcc hc12 hf12 hzr hc
    rw [HU.out]
    cases nn
    · by_cases hk : k = k'
      · have hne : (k != k') = false := by simpa using hk
        have HK := Lib.hid hk
        clear hk
        have hzz := HZ2.out.lt
        have hk0 : c < w2.heap.size := by omega
        go_wp2_with fail
        go_region_held3 (fun w' => w'.cell? ⟨c, 0, none⟩ = some (.func (.func g) #[] #[]) ∧ w'.cell? ⟨w.heap.size, 0, none⟩ = some (.int .i64 k) ∧ w'.cell? ⟨w.heap.size, 1, none⟩ = some (.int .i64 n) ∧ w'.cell? ⟨w.heap.size, 2, none⟩ = some (.string s) ∧
            w'.cell? ⟨w.heap.size + 1, 0, none⟩ = some (.int .i64 k') ∧ w'.cell? ⟨w.heap.size + 1, 1, none⟩ = some (.int .i64 n') ∧ w'.cell? ⟨w.heap.size + 1, 2, none⟩ = some (.string s'))
          (first | exact K6 | exact K4 | exact And.intro (st3 K6.1 (by omega)) (And.intro (st3 K6.2.1 (by omega)) (And.intro (st3 K6.2.2.1 (by omega)) (And.intro (st3 K6.2.2.2.1 (by omega)) (And.intro (st3 K6.2.2.2.2.1 (by omega)) (And.intro (st3 K6.2.2.2.2.2.1 (by omega)) (st3 K6.2.2.2.2.2.2 (by omega))))))) | go_keep)
          (first
            | (go_at_call 46; refine (HO.out _).mono ?_; rintro e w4 ⟨rfl, hb4⟩; have hb4 : Below w2.heap.size w2 w4 := ⟨hb4.os, hb4.tape, hb4.output, hb4.size, hb4.block⟩; obtain ⟨hc4, hf4⟩ := bcell hb4; have hz4 := hb4.size; have K4 := And.intro ((hc4 c 0 (by omega)).trans kc) (And.intro ((hc4 _ 0 (by omega)).trans g0) (And.intro ((hc4 _ 1 (by omega)).trans g1) (And.intro ((hc4 _ 2 (by omega)).trans g2) (And.intro ((hc4 _ 0 (by omega)).trans k0) (And.intro ((hc4 _ 1 (by omega)).trans k1) ((hc4 _ 2 (by omega)).trans k2)))))); have Z4 := Lib.hid (HZ2.out.below hb4 HZ2.out.lt); have B4 := Lib.hid (below_trans HB2.out hb4); clear hb4 hc4 hf4)
            | (go_at_call 51; refine (ofBool_any _ _).mono ?_; rintro e w6 ⟨rfl, hb6⟩; obtain ⟨hc6, hf6⟩ := bcell hb6; have hz6 := hb6.size; have K6 := And.intro ((hc6 c 0 (by omega)).trans K4.1) (And.intro ((hc6 _ 0 (by omega)).trans K4.2.1) (And.intro ((hc6 _ 1 (by omega)).trans K4.2.2.1) (And.intro ((hc6 _ 2 (by omega)).trans K4.2.2.2.1) (And.intro ((hc6 _ 0 (by omega)).trans K4.2.2.2.2.1) (And.intro ((hc6 _ 1 (by omega)).trans K4.2.2.2.2.2.1) ((hc6 _ 2 (by omega)).trans K4.2.2.2.2.2.2)))))); have Z6 := Lib.hid (Z4.out.below hb6 Z4.out.lt); have B6 := Lib.hid (below_trans B4.out hb6); clear hb6 hc6 hf6; obtain ⟨⟨r0, r1, r2⟩, f0, f1, f2⟩ := Z6.out.facts)
            | (refine (HP.out _ _).mono ?_; rintro e w5 ⟨rfl, rfl⟩))
        go_wp2
        refine bodyPost_ret (v := .tuple #[.agg #[.int .i64 3, .int .i64 (bit (p (ord ⟨k, n, s⟩ ⟨k', n', s'⟩))), .string ⟨#[]⟩], .int .i64 0]) (by simp [results, Tryd.results89, go_sem, r0, r1, r2]) rfl ?_
        refine ⟨by rw [HV1.out, HE1.out]; simp [hne], ?_⟩
        repeat (first | exact B6.out | refine below_store ?_ (by omega) _)
      · have hne : (k != k') = true := by simpa using hk
        have HNE := Lib.hid hne
        clear hk
        obtain ⟨⟨r0, r1, r2⟩, f0, f1, f2⟩ := HZ2.out.facts
        go_wp2
        refine bodyPost_ret (v := .tuple #[.agg #[.int .i64 0, .int .i64 0, .string ⟨#[]⟩], .int .i64 30]) (by simp [results, Tryd.results89, go_sem, r0, r1, r2]) rfl ?_
        refine ⟨by rw [HV1.out, HE1.out]; simp [HNE.out], ?_⟩
        repeat (first | exact HB2.out | refine below_store ?_ (by omega) _)
    · obtain ⟨⟨r0, r1, r2⟩, f0, f1, f2⟩ := HZ2.out.facts
      go_wp2
      refine bodyPost_ret (v := .tuple #[.agg #[.int .i64 0, .int .i64 0, .string ⟨#[]⟩], .int .i64 0]) (by simp [results, Tryd.results89, go_sem, r0, r1, r2]) rfl ?_
      refine ⟨by rw [HV1.out, HE1.out]; rfl, ?_⟩
      repeat (first | exact HB2.out | refine below_store ?_ (by omega) _)
end Go.Proofs.YtjfpkjpicalfmaaDoor
