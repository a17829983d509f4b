/-
  STAGE 12: byTxn: the comparison, what a sort leaves.
-/
import Derived.Test.YtlblgfpafdfilaaDoorLO
namespace Go.Proofs.YtlblgfpafdfilaaDoor
open Go.RowKit Go.Sort

def cmpM (a b : Nat) : Int := if a < b then -1 else if b < a then 1 else 0
set_option maxRecDepth 100000 in
theorem isNaN_any (a : Nat) (w : World) : Calls Tryd.prog 71 #[.int .u32 (a : Int)] w fun e w' => e = .returned (.bool false) ∧ w = w' := by
  go_enter Tryd.func71, Tryd.ntmps71
  go_wp2_with fail
  go_ret
  exact ⟨by simp, rfl⟩
set_option maxRecDepth 100000 in
theorem cmp_any (a b : Nat) (w : World) : Calls Tryd.prog 56 #[.int .u32 (a : Int), .int .u32 (b : Int)] w fun e w' => e = .returned (.int .i64 (cmpM a b)) ∧ w' = w := by
  rcases Nat.lt_trichotomy a b with h | h | h
  · have d1 : decide ((a : Int) < (b : Int)) = true := decide_eq_true (by omega)
    have d2 : decide (a < b) = true := decide_eq_true h
    have e : cmpM a b = -1 := by rw [cmpM, if_pos h]
    rw [e]
    clear e
    go_enter Tryd.func56, Tryd.ntmps56
    go_wp2_with (go_at_call 71; with_reducible refine (isNaN_any _ _).mono ?_; rintro e w' ⟨rfl, rfl⟩)
    go_ret
    exact ⟨rfl, rfl⟩
  · subst h
    have d1 : decide ((a : Int) < (a : Int)) = false := decide_eq_false (by omega)
    have d3 : decide ((a : Int) > (a : Int)) = false := decide_eq_false (by omega)
    have e : cmpM a a = 0 := by rw [cmpM, if_neg (by omega), if_neg (by omega)]
    rw [e]
    clear e
    go_enter Tryd.func56, Tryd.ntmps56
    go_wp2_with (go_at_call 71; with_reducible refine (isNaN_any _ _).mono ?_; rintro e w' ⟨rfl, rfl⟩)
    go_ret
    exact ⟨rfl, rfl⟩
  · have d1 : decide ((a : Int) < (b : Int)) = false := decide_eq_false (by omega)
    have d2 : decide (a < b) = false := decide_eq_false (by omega)
    have d3 : decide ((a : Int) > (b : Int)) = true := decide_eq_true (by omega)
    have d4 : decide (b < a) = true := decide_eq_true h
    have e : cmpM a b = 1 := by rw [cmpM, if_neg (by omega), if_pos h]
    rw [e]
    clear e
    go_enter Tryd.func56, Tryd.ntmps56
    go_wp2_with (go_at_call 71; with_reducible refine (isNaN_any _ _).mono ?_; rintro e w' ⟨rfl, rfl⟩)
    go_ret
    exact ⟨rfl, rfl⟩
set_option maxRecDepth 100000 in
theorem byP_any (g a : Nat) (A : Option Addr) (c : Nat) (ls : List LK) (W : World) (hT : TR W g A c ls) (ha : W.cell? ⟨a, 0, none⟩ = some (.pointer (some ⟨g, 0, none⟩))) (i j : Nat) (li lj : LK) (hi : ls[i]? = some li) (hj : ls[j]? = some lj) :
    Calls Tryd.prog 55 #[.int .i64 (i : Int), .int .i64 (j : Int), .pointer (some ⟨a, 0, none⟩)] W fun e w' => e = .returned (.int .i64 (cmpM li.t lj.t)) ∧ ∃ q os', w' = grow (W.drewN q) os' := by
  obtain ⟨b, rfl, ci⟩ := hT.row i li hi
  obtain ⟨b', e', cj⟩ := hT.row j lj hj
  injection e' with e'
  injection e' with e'
  subst e'
  have x0 := ci.1
  have y0 := cj.1
  have c0 := hT.blk.cell 0
  simp only [List.getElem?_toArray, List.getElem?_cons_zero] at c0
  have h1 : (i : Int) < (ls.length : Int) := by have := (List.getElem?_eq_some_iff.1 hi).1; omega
  have h2 : (j : Int) < (ls.length : Int) := by have := (List.getElem?_eq_some_iff.1 hj).1; omega
  have HC := Lib.hid (fun W => cmp_any li.t lj.t W)
  generalize cmpM li.t lj.t = r at HC ⊢
  generalize ls.length = n at *
  clear hT hi hj ci cj
  go_enter Tryd.func55, Tryd.ntmps55
  go_upto_region 1 with fail
  go_quiet (first | (go_at_call 56; with_reducible refine Calls.quiet_of_same (HC.out _)))
  go_wp2_with fail
  go_ret
  exact ⟨rfl, nq, #[], by simp⟩
theorem sort_fr {α : Type} [Inhabited α] (enc : α → Value) (w : World) (blk off m : Nat) (dk : Array α) (os : Array Obj) : Fr w (sortWorld enc w blk off m dk os) fun b => b = blk := by
  refine ⟨rfl, rfl, rfl, ?_, fun b hb hn => ?_⟩
  · unfold sortWorld
    rw [size_grow]
    simp [putRow, mapBlock, Sort.ahead]
  · unfold sortWorld grow putRow mapBlock Sort.ahead
    simp only
    rw [Array.getElem?_append_left (by simpa using hb), Array.getElem?_modify, if_neg (fun e => hn e.symm)]
/-- which places a row of numbers has while it is filled -/
def fillM (n k : Nat) : List Nat := List.range k ++ List.replicate (n - k) 0
theorem fillM_len {n k : Nat} (h : k ≤ n) : (fillM n k).length = n := by rw [fillM, List.length_append, List.length_range, List.length_replicate]; omega
theorem fillM_at {n k : Nat} (h : k < n) : (fillM n k)[k]? = some 0 := by
  rw [fillM, List.getElem?_append_right (by simp), List.length_range, Nat.sub_self, show n - k = (n - (k + 1)) + 1 by omega, List.replicate_succ]
  rfl
theorem fillM_set {n k : Nat} (h : k < n) : (fillM n k).set k k = fillM n (k + 1) := by
  rw [fillM, fillM, List.set_append_right _ _ (by simp), List.length_range, Nat.sub_self, List.range_succ, List.append_assoc, show n - k = (n - (k + 1)) + 1 by omega, List.replicate_succ, List.set_cons_zero]
  rfl
/-- rising transactions -/
def Rises (ls : List LK) (pl : List Nat) : Prop := pl.Perm (List.range ls.length) ∧ ∀ i j p q : Nat, i < j → pl[i]? = some p → pl[j]? = some q → (ls.getD p okz).t ≤ (ls.getD q okz).t
theorem swoT {α : Type} (f : α → Nat) : SWO (ltOf fun x y : α => cmpM (f x) (f y)) := by
  have e : ∀ x y : α, ltOf (fun x y : α => cmpM (f x) (f y)) x y = decide (f x < f y) := by
    intro x y
    unfold ltOf cmpM
    by_cases h1 : f x < f y
    · simp [h1]
    · by_cases h2 : f y < f x <;> simp [h1, h2]
  exact ⟨fun x => by rw [e]; simp, fun x y z h1 h2 => by rw [e] at *; simp at *; omega, fun x y z h1 h2 => by rw [e] at *; simp at *; omega⟩
end Go.Proofs.YtlblgfpafdfilaaDoor
