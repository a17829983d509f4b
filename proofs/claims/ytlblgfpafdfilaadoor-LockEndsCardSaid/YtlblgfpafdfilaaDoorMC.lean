/-
  STAGE 12: whole structs into rows of the call's own; clear; the closure of Release, IndexFunc.
-/
import Derived.Test.YtlblgfpafdfilaaDoorMB
import Derived.Lib.SliceRun
namespace Go.Proofs.YtlblgfpafdfilaaDoor
open Go.RowKit Go.Sort

def putL (xs : List Value) : Nat → List Value → List Value
  | _, [] => xs
  | o, v :: r => putL (xs.set o v) (o + 1) r
theorem putL_mid (a m c v : List Value) (h : m.length = v.length) : putL (a ++ m ++ c) a.length v = a ++ v ++ c := by
  induction v generalizing a m with
  | nil => rw [List.length_eq_zero_iff.1 h]; rfl
  | cons u r ih =>
    match m, h with
    | u' :: m', h =>
      have e : (a ++ u' :: m' ++ c).set a.length u = (a ++ [u]) ++ m' ++ c := by
        rw [List.append_assoc, List.set_append_right _ _ (Nat.le_refl _), Nat.sub_self]
        simp
      have := ih (a ++ [u]) m' (by simpa using h)
      rw [List.length_append, List.length_singleton] at this
      show putL ((a ++ u' :: m' ++ c).set a.length u) (a.length + 1) r = _
      rw [e, this]
      simp
theorem putL_low (v : List Value) : ∀ (xs : List Value) (o k : Nat), k ≤ o → (putL xs o v).take k = xs.take k := by
  induction v with
  | nil => intros; rfl
  | cons u r ih =>
    intro xs o k hk
    show (putL (xs.set o u) (o + 1) r).take k = _
    rw [ih _ _ _ (by omega), List.take_set, List.set_eq_of_length_le (by rw [List.length_take]; omega)]
theorem own_sets {w : World} {e : TypeId} {k n c b : Nat} {xs : List Value} (h : w.ownsRow 0 e k (.slice (some ⟨b, 0, none⟩) n c) n xs) (vs : List Value) (o : Nat) : (w.setCells b o vs).ownsRow 0 e k (.slice (some ⟨b, 0, none⟩) n c) n (putL xs o vs) := by
  induction vs generalizing w xs o with
  | nil => exact h
  | cons v r ih => exact ih (World.ownsRow.stored h o v).1 (o + 1)
section
variable {α : Type} {f : α → List Value} {k : Nat} {w : World} {e : TypeId} {l : List α} {b c : Nat}
/-- a whole element is set -/
theorem OwR.sets {n : Nat} (h : OwR w e k f (.slice (some ⟨b, 0, none⟩) n c) l) (hn : l.length = n) (hk : ∀ x, (f x).length = k) {i : Nat} (hi : i < n) (y : α) : OwR (w.setCells b (i * k) (f y)) e k f (.slice (some ⟨b, 0, none⟩) n c) (l.set i y) := by
  subst hn
  have h' := own_sets h (f y) (i * k)
  have e1 : l = l.take i ++ l[i] :: l.drop (i + 1) := by rw [← List.drop_eq_getElem_cons hi, List.take_append_drop]
  have e2 : l.flatMap f = (l.take i).flatMap f ++ f l[i] ++ (l.drop (i + 1)).flatMap f := by
    conv => lhs; rw [e1]
    rw [List.flatMap_append, List.flatMap_cons, List.append_assoc]
  have e3 : ((l.take i).flatMap f).length = i * k := by rw [flat_len hk, List.length_take, Nat.min_eq_left (by omega)]
  rw [e2, ← e3, putL_mid _ _ _ _ (by rw [hk, hk]), e3] at h'
  unfold OwR
  rw [List.length_set]
  have e4 : (l.set i y).flatMap f = (l.take i).flatMap f ++ f y ++ (l.drop (i + 1)).flatMap f := by
    rw [List.set_eq_take_append_cons_drop, if_pos hi, List.flatMap_append, List.flatMap_cons, List.append_assoc]
  rw [e4]
  exact h'
/-- its head -/
theorem OwR.cutN {n i : Nat} (h : OwR w e k f (.slice (some ⟨b, 0, none⟩) n c) l) (hn : l.length = n) (hk : ∀ x, (f x).length = k) (hi : i ≤ n) : OwR w e k f (.slice (some ⟨b, 0, none⟩) i c) (l.take i) := by
  subst hn
  have hl : (l.take i).length = i := by rw [List.length_take, Nat.min_eq_left hi]
  rcases h.2 with ⟨e', _⟩ | ⟨g, cap, cur, e', _, hg, hc, hm, hcs, ht⟩
  · cases e'
  · injection e' with e1 e2 e3
    injection e1 with e1
    injection e1 with e1
    subst e1 e3
    unfold OwR
    rw [hl]
    refine ⟨by rw [flat_len hk, hl], Or.inr ⟨b, c, cur, rfl, Nat.zero_le _, hg, by omega, hm, hcs, ?_⟩⟩
    have hm2 : i * k ≤ l.length * k := Nat.mul_le_mul_right k hi
    have : cur.toList.take (i * k) = (l.flatMap f).take (i * k) := by rw [← ht, List.take_take, Nat.min_eq_left hm2]
    rw [this]
    conv => lhs; rw [← List.take_append_drop i l, List.flatMap_append]
    rw [List.take_append_of_le_length (by rw [flat_len hk, hl]; exact Nat.le_refl _), List.take_of_length_le (by rw [flat_len hk, hl]; exact Nat.le_refl _)]
/-- clear, from place i on, and what lies ahead of it -/
theorem OwR.cleared {n i : Nat} (h : OwR w e k f (.slice (some ⟨b, 0, none⟩) n c) l) (hn : l.length = n) (hk : ∀ x, (f x).length = k) (hi : i ≤ n) (vs : List Value) : OwR (w.setCells b (i * k) vs) e k f (.slice (some ⟨b, 0, none⟩) i c) (l.take i) := by
  have h2 := h.cutN hn hk hi
  subst hn
  have hl : (l.take i).length = i := by rw [List.length_take, Nat.min_eq_left hi]
  have h' := own_sets h vs (i * k)
  rcases h'.2 with ⟨e', _⟩ | ⟨g, cap, cur, e', _, hg, hc, hm, hcs, ht⟩
  · cases e'
  · injection e' with e1 e2 e3
    injection e1 with e1
    injection e1 with e1
    subst e1 e3
    unfold OwR
    rw [hl]
    refine ⟨by rw [flat_len hk, hl], Or.inr ⟨b, c, cur, rfl, Nat.zero_le _, hg, by omega, hm, hcs, ?_⟩⟩
    have hm2 : i * k ≤ l.length * k := Nat.mul_le_mul_right k hi
    have : cur.toList.take (i * k) = (l.flatMap f).take (i * k) := by rw [← putL_low vs (l.flatMap f) (i * k) (i * k) (Nat.le_refl _), ← ht, List.take_take, Nat.min_eq_left hm2]
    rw [this]
    conv => lhs; rw [← List.take_append_drop i l, List.flatMap_append]
    rw [List.take_append_of_le_length (by rw [flat_len hk, hl]; exact Nat.le_refl _), List.take_of_length_le (by rw [flat_len hk, hl]; exact Nat.le_refl _)]
end
def zl : Array Value := #[.int .u32 0, .bool false, .int .u32 0, .string ⟨#[]⟩, .string ⟨#[]⟩, .int .i64 0, .bool false]
theorem zl_one (n : Nat) : ∀ v ∈ (Builtin.zeroCells zl n).toList, v.oneCell' = true := by
  intro v hv
  simp only [Builtin.zeroCells, Array.toList_map, List.mem_map] at hv
  obtain ⟨i, _, rfl⟩ := hv
  have hs : zl.size = 7 := rfl
  rw [hs]
  have hi : i % 7 < 7 := Nat.mod_lt _ (by decide)
  generalize i % 7 = j at hi
  match j, hi with
  | 0, _ => rfl
  | 1, _ => rfl
  | 2, _ => rfl
  | 3, _ => rfl
  | 4, _ => rfl
  | 5, _ => rfl
  | 6, _ => rfl
theorem run_clear46 (w : World) (ty : TypeId) (b i n c : Nat) (hc : ∀ j, j < n * 7 → (w.cell? ⟨b, i * 7 + j, none⟩).isSome = true) (hf : ∀ j, w.frozen? ⟨b, j, none⟩ = false) :
    ∃ vs, (Builtin.clear_ #[27] ty #[.slice (some ⟨b, i * 7, none⟩) n c]).run Tryd.prog w = .ok (.tuple #[]) (w.setCells b (i * 7) vs) := by
  rcases Nat.eq_zero_or_pos n with rfl | hn
  · exact ⟨[], by simp [Builtin.clear_, run_underlying Tryd.underlying27]; rfl⟩
  · obtain ⟨m, rfl⟩ : ∃ m, n = m + 1 := ⟨n - 1, by omega⟩
    have hlen : (Builtin.zeroCells zl (m + 1)).toList.length = (m + 1) * 7 := by simp [Builtin.zeroCells, zl]
    have hst := run_storeCells_cells (P := Tryd.prog) b (i * 7) (Builtin.zeroCells zl (m + 1)).toList 0 w (by intro j hj; rw [Nat.add_zero]; exact hc j (by rwa [hlen] at hj)) (by intro j hj; exact hf _) (zl_one (m + 1))
    simp only [Nat.add_zero] at hst
    have hv : (zeroValue 46).run Tryd.prog w = .ok (.agg zl) w := Tryd.zeroValue46 w
    have hz : (Value.agg zl).cells = zl := rfl
    exact ⟨(Builtin.zeroCells zl (m + 1)).toList, by simp [Builtin.clear_, run_underlying Tryd.underlying27, hv, hz, hst]⟩
set_option maxRecDepth 100000 in
theorem delP_any (t a : Nat) (l : LK) (W : World) (ht : W.cell? ⟨a, 0, none⟩ = some (.int .u32 (t : Int))) :
    Calls Tryd.prog 39 #[l.agg, .pointer (some ⟨a, 0, none⟩)] W fun e w' => e = .returned (.bool (l.t == t)) ∧ Below W.heap.size W w' := by
  obtain ⟨W2, hW2⟩ : ∃ W2, W2 = W.alloc (.cells #[.int .u32 (l.t : Int), .bool l.x.r, .int .u32 (l.x.i : Int), .string l.x.a, .string l.x.b, .int .i64 l.m, .bool l.h] 46) := ⟨_, rfl⟩
  have hb : Below W.heap.size W W2 := by rw [hW2]; exact (Below.refl _ _).alloc (Nat.le_refl _) _
  have hk : Blk W2 W.heap.size 46 (lcs l) := by rw [hW2]; exact Blk.new _ _ _
  have HB := Lib.hid hb
  have c0 := hk.cell 0
  have c1 := (hb.cell (block_lt_of_cell ht)).trans ht
  simp only [lcs, List.getElem?_toArray, List.getElem?_cons_zero] at c0
  have d1 := nbeq l.t t
  generalize (l.t == t) = p at d1 ⊢
  unfold LK.agg
  clear hb hk ht
  go_enter Tryd.func39, Tryd.ntmps39
  go_upto_region 1 with fail
  rw [← hW2]
  clear hW2
  go_wp2_with fail
  go_ret
  exact ⟨rfl, HB.out⟩
end Go.Proofs.YtlblgfpafdfilaaDoor
