/-
  THE WALKS OF Eq, Ne, Lt, Le, Gt, Ge.
-/
import Derived.Test.YtjfpkjpicalfmaaDoorThree
namespace Go.Proofs.YtjfpkjpicalfmaaDoor
open Go.RowKit Go.Sort
attribute [local go_sem high] run_eq23 run_neq23 run_eq9



theorem enters57 : ∀ args w, (callFunc 57 args).run Tryd.prog w = .ok (.enter 57 args) w := fun args w => by go_simp
set_option maxRecDepth 100000 in
set_option maxHeartbeats 2000000 in
theorem le_any (a b : V) (hsa : a.s.size ≤ 9223372036854775807) (hsb : b.s.size ≤ 9223372036854775807) (w : World) :
    Calls Tryd.prog 20 #[.agg #[.int .i64 a.k, .int .i64 a.n, .string a.s], .agg #[.int .i64 b.k, .int .i64 b.n, .string b.s]] w fun e w' =>
      e = .returned (.tuple #[.agg #[.int .i64 (holdV (fun n => decide (n ≤ 0)) a b).k, .int .i64 (holdV (fun n => decide (n ≤ 0)) a b).n, .string (holdV (fun n => decide (n ≤ 0)) a b).s], .int .i64 (holdE a b)]) ∧ Below w.heap.size w w' := by
  have HC := Lib.hid (fun c W hl hc => closure_any 57 (fun n => decide (n ≤ 0)) enters57 asked3 a b hsa hsb c W hl hc)
  have HT := Lib.hid (fun (w' : World) (h : Below (w.heap.size + 3) (M3 w a b) w') => three_boxes h (Nat.le_refl _))
  clear hsa hsb
  generalize holdV (fun n => decide (n ≤ 0)) a b = hv at HC ⊢
  generalize holdE a b = he at HC ⊢
  obtain ⟨k, n, s⟩ := a
  obtain ⟨k', n', s'⟩ := b
  obtain ⟨vk, vn, vs⟩ := hv
  simp only at HC HT ⊢
  go_enter Tryd.func20, Tryd.ntmps20
  go_wp2_with fail
  go_region_held3 (fun w' => w'.cell? ⟨w.heap.size, 0, none⟩ = some (.int .i64 k) ∧ w'.cell? ⟨w.heap.size, 1, none⟩ = some (.int .i64 n) ∧ w'.cell? ⟨w.heap.size, 2, none⟩ = some (.string s) ∧
      w'.cell? ⟨w.heap.size + 1, 0, none⟩ = some (.int .i64 k') ∧ w'.cell? ⟨w.heap.size + 1, 1, none⟩ = some (.int .i64 n') ∧ w'.cell? ⟨w.heap.size + 1, 2, none⟩ = some (.string s'))
    (first | exact K4 | exact And.intro (st3 K4.1 (by omega)) (And.intro (st3 K4.2.1 (by omega)) (And.intro (st3 K4.2.2.1 (by omega)) (And.intro (st3 K4.2.2.2.1 (by omega)) (And.intro (st3 K4.2.2.2.2.1 (by omega)) (st3 K4.2.2.2.2.2 (by omega)))))) | go_keep)
    (first
      | (go_at_call 53; refine (comparison_any _ _).mono ?_; rintro e w' ⟨rfl, rfl⟩)
      | (go_at_call 89; refine (HC.out _ _ (by simp) (by go_simp)).mono ?_; rintro e w4 ⟨rfl, hb4⟩; have hbm : Below (w.heap.size + 3) (M3 w ⟨k, n, s⟩ ⟨k', n', s'⟩) w4 := behind (a := ⟨k, n, s⟩) (b := ⟨k', n', s'⟩) hb4 (by simp); obtain ⟨K4, Z4, B4, hz4⟩ := HT.out w4 hbm; unfold Boxes at K4; obtain ⟨⟨r0, r1, r2⟩, f0, f1, f2⟩ := Z4.facts; have HB4 := Lib.hid B4; clear hb4 hbm Z4 B4))
  go_wp2
  refine bodyPost_ret (v := .tuple #[.agg #[.int .i64 vk, .int .i64 vn, .string vs], .int .i64 he]) (by simp [results, Tryd.results20, go_sem, r0, r1, r2]) rfl ?_
  refine ⟨rfl, ?_⟩
  repeat (first | exact HB4.out | refine below_store ?_ (by omega) _)

theorem enters58 : ∀ args w, (callFunc 58 args).run Tryd.prog w = .ok (.enter 58 args) w := fun args w => by go_simp
set_option maxRecDepth 100000 in
set_option maxHeartbeats 2000000 in
theorem gt_any (a b : V) (hsa : a.s.size ≤ 9223372036854775807) (hsb : b.s.size ≤ 9223372036854775807) (w : World) :
    Calls Tryd.prog 21 #[.agg #[.int .i64 a.k, .int .i64 a.n, .string a.s], .agg #[.int .i64 b.k, .int .i64 b.n, .string b.s]] w fun e w' =>
      e = .returned (.tuple #[.agg #[.int .i64 (holdV (fun n => decide (n > 0)) a b).k, .int .i64 (holdV (fun n => decide (n > 0)) a b).n, .string (holdV (fun n => decide (n > 0)) a b).s], .int .i64 (holdE a b)]) ∧ Below w.heap.size w w' := by
  have HC := Lib.hid (fun c W hl hc => closure_any 58 (fun n => decide (n > 0)) enters58 asked4 a b hsa hsb c W hl hc)
  have HT := Lib.hid (fun (w' : World) (h : Below (w.heap.size + 3) (M3 w a b) w') => three_boxes h (Nat.le_refl _))
  clear hsa hsb
  generalize holdV (fun n => decide (n > 0)) a b = hv at HC ⊢
  generalize holdE a b = he at HC ⊢
  obtain ⟨k, n, s⟩ := a
  obtain ⟨k', n', s'⟩ := b
  obtain ⟨vk, vn, vs⟩ := hv
  simp only at HC HT ⊢
  go_enter Tryd.func21, Tryd.ntmps21
  go_wp2_with fail
  go_region_held3 (fun w' => w'.cell? ⟨w.heap.size, 0, none⟩ = some (.int .i64 k) ∧ w'.cell? ⟨w.heap.size, 1, none⟩ = some (.int .i64 n) ∧ w'.cell? ⟨w.heap.size, 2, none⟩ = some (.string s) ∧
      w'.cell? ⟨w.heap.size + 1, 0, none⟩ = some (.int .i64 k') ∧ w'.cell? ⟨w.heap.size + 1, 1, none⟩ = some (.int .i64 n') ∧ w'.cell? ⟨w.heap.size + 1, 2, none⟩ = some (.string s'))
    (first | exact K4 | exact And.intro (st3 K4.1 (by omega)) (And.intro (st3 K4.2.1 (by omega)) (And.intro (st3 K4.2.2.1 (by omega)) (And.intro (st3 K4.2.2.2.1 (by omega)) (And.intro (st3 K4.2.2.2.2.1 (by omega)) (st3 K4.2.2.2.2.2 (by omega)))))) | go_keep)
    (first
      | (go_at_call 53; refine (comparison_any _ _).mono ?_; rintro e w' ⟨rfl, rfl⟩)
      | (go_at_call 89; refine (HC.out _ _ (by simp) (by go_simp)).mono ?_; rintro e w4 ⟨rfl, hb4⟩; have hbm : Below (w.heap.size + 3) (M3 w ⟨k, n, s⟩ ⟨k', n', s'⟩) w4 := behind (a := ⟨k, n, s⟩) (b := ⟨k', n', s'⟩) hb4 (by simp); obtain ⟨K4, Z4, B4, hz4⟩ := HT.out w4 hbm; unfold Boxes at K4; obtain ⟨⟨r0, r1, r2⟩, f0, f1, f2⟩ := Z4.facts; have HB4 := Lib.hid B4; clear hb4 hbm Z4 B4))
  go_wp2
  refine bodyPost_ret (v := .tuple #[.agg #[.int .i64 vk, .int .i64 vn, .string vs], .int .i64 he]) (by simp [results, Tryd.results21, go_sem, r0, r1, r2]) rfl ?_
  refine ⟨rfl, ?_⟩
  repeat (first | exact HB4.out | refine below_store ?_ (by omega) _)

theorem enters59 : ∀ args w, (callFunc 59 args).run Tryd.prog w = .ok (.enter 59 args) w := fun args w => by go_simp
set_option maxRecDepth 100000 in
set_option maxHeartbeats 2000000 in
theorem ge_any (a b : V) (hsa : a.s.size ≤ 9223372036854775807) (hsb : b.s.size ≤ 9223372036854775807) (w : World) :
    Calls Tryd.prog 22 #[.agg #[.int .i64 a.k, .int .i64 a.n, .string a.s], .agg #[.int .i64 b.k, .int .i64 b.n, .string b.s]] w fun e w' =>
      e = .returned (.tuple #[.agg #[.int .i64 (holdV (fun n => decide (n ≥ 0)) a b).k, .int .i64 (holdV (fun n => decide (n ≥ 0)) a b).n, .string (holdV (fun n => decide (n ≥ 0)) a b).s], .int .i64 (holdE a b)]) ∧ Below w.heap.size w w' := by
  have HC := Lib.hid (fun c W hl hc => closure_any 59 (fun n => decide (n ≥ 0)) enters59 asked5 a b hsa hsb c W hl hc)
  have HT := Lib.hid (fun (w' : World) (h : Below (w.heap.size + 3) (M3 w a b) w') => three_boxes h (Nat.le_refl _))
  clear hsa hsb
  generalize holdV (fun n => decide (n ≥ 0)) a b = hv at HC ⊢
  generalize holdE a b = he at HC ⊢
  obtain ⟨k, n, s⟩ := a
  obtain ⟨k', n', s'⟩ := b
  obtain ⟨vk, vn, vs⟩ := hv
  simp only at HC HT ⊢
  go_enter Tryd.func22, Tryd.ntmps22
  go_wp2_with fail
  go_region_held3 (fun w' => w'.cell? ⟨w.heap.size, 0, none⟩ = some (.int .i64 k) ∧ w'.cell? ⟨w.heap.size, 1, none⟩ = some (.int .i64 n) ∧ w'.cell? ⟨w.heap.size, 2, none⟩ = some (.string s) ∧
      w'.cell? ⟨w.heap.size + 1, 0, none⟩ = some (.int .i64 k') ∧ w'.cell? ⟨w.heap.size + 1, 1, none⟩ = some (.int .i64 n') ∧ w'.cell? ⟨w.heap.size + 1, 2, none⟩ = some (.string s'))
    (first | exact K4 | exact And.intro (st3 K4.1 (by omega)) (And.intro (st3 K4.2.1 (by omega)) (And.intro (st3 K4.2.2.1 (by omega)) (And.intro (st3 K4.2.2.2.1 (by omega)) (And.intro (st3 K4.2.2.2.2.1 (by omega)) (st3 K4.2.2.2.2.2 (by omega)))))) | go_keep)
    (first
      | (go_at_call 53; refine (comparison_any _ _).mono ?_; rintro e w' ⟨rfl, rfl⟩)
      | (go_at_call 89; refine (HC.out _ _ (by simp) (by go_simp)).mono ?_; rintro e w4 ⟨rfl, hb4⟩; have hbm : Below (w.heap.size + 3) (M3 w ⟨k, n, s⟩ ⟨k', n', s'⟩) w4 := behind (a := ⟨k, n, s⟩) (b := ⟨k', n', s'⟩) hb4 (by simp); obtain ⟨K4, Z4, B4, hz4⟩ := HT.out w4 hbm; unfold Boxes at K4; obtain ⟨⟨r0, r1, r2⟩, f0, f1, f2⟩ := Z4.facts; have HB4 := Lib.hid B4; clear hb4 hbm Z4 B4))
  go_wp2
  refine bodyPost_ret (v := .tuple #[.agg #[.int .i64 vk, .int .i64 vn, .string vs], .int .i64 he]) (by simp [results, Tryd.results22, go_sem, r0, r1, r2]) rfl ?_
  refine ⟨rfl, ?_⟩
  repeat (first | exact HB4.out | refine below_store ?_ (by omega) _)

end Go.Proofs.YtjfpkjpicalfmaaDoor
