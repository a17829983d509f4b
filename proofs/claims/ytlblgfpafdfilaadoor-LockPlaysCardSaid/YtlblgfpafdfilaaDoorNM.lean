/-
STAGE 12: a row of numbers that is taken from its head and grows at its end.
-/
import Derived.Test.YtlblgfpafdfilaaDoorLI
namespace Go.Proofs.YtlblgfpafdfilaaDoor
open Go.RowKit

/-- v reads as l, from any cell of a block of the call's own on -/
def QU (w : World) (v : Value) (l : List Nat) : Prop :=
  ∃ g off cap cur, v = .slice (some ⟨g, off, none⟩) l.length cap ∧ Blk w g 34 cur ∧ l.length ≤ cap ∧ cap ≤ maxLen ∧ off + cap ≤ cur.size ∧ ∀ j x, l[j]? = some x → cur[off + j]? = some (.int .u32 ((x : Nat) : Int))
theorem QU.out {w : World} {v : Value} {l : List Nat} (h : QU w v l) : ∃ g off cap cur, v = .slice (some ⟨g, off, none⟩) l.length cap ∧ Blk w g 34 cur ∧ l.length ≤ cap ∧ cap ≤ maxLen ∧ off + cap ≤ cur.size ∧ ∀ j x, l[j]? = some x → cur[off + j]? = some (.int .u32 ((x : Nat) : Int)) := h
theorem QU.keep {w w' : World} {v : Value} {l : List Nat} {S : Nat → Prop} (h : QU w v l) (hf : Fr w w' S) (hd : ∀ b, v.ownBlock = some b → ¬ S b) : QU w' v l := by
  obtain ⟨g, off, cap, cur, rfl, hg, r⟩ := h
  exact ⟨g, off, cap, cur, rfl, hg.keep hf (hd g rfl), r⟩
theorem QU.up {w w' : World} {v : Value} {l : List Nat} (h : QU w v l) (hb : RowKit.Below w.heap.size w w') : QU w' v l := h.keep (Fr.of_below hb No) fun _ _ hn => hn
theorem QU.lt {w : World} {v : Value} {l : List Nat} (h : QU w v l) {b : Nat} (hb : v.ownBlock = some b) : b < w.heap.size := by
  obtain ⟨g, off, cap, cur, rfl, hg, _⟩ := h
  injection hb with hb
  rw [← hb]
  exact hg.lt
theorem QU.new (w : World) (x : Nat) : QU (w.alloc (.cells #[.int .u32 (x : Int)] 34)) (.slice (some ⟨w.heap.size, 0, none⟩) 1 1) [x] :=
  ⟨w.heap.size, 0, 1, _, rfl, Blk.new _ _ _, Nat.le_refl _, by decide, Nat.le_refl _, fun j y h => by
    cases j with
    | zero => simp at h; subst h; rfl
    | succ j => simp at h⟩
set_option maxRecDepth 100000 in
theorem run_appQ (w : World) (ty : TypeId) (v : Value) (l : List Nat) (h : QU w v l) (ad : Addr) (c x : Nat) (hx : w.cell? ad = some (.int .u32 (x : Int))) (hle : l.length < 35184372088832) :
    ∃ v' w', (Builtin.append_ #[49, 49] ty #[v, .slice (some ad) 1 c]).run Tryd.prog w = .ok v' w' ∧ QU w' v' (l ++ [x]) ∧ w.grownBy w' v.ownBlock ∧ (v'.ownBlock = v.ownBlock ∨ v'.ownBlock = some w.heap.size) := by
  obtain ⟨i0, hi, hz0, hz1, hz2⟩ := info_parts K34.inf
  obtain ⟨g, off, cap, cur, rfl, hg, hnc, hcm, hsz, hat⟩ := h
  have hlen : (l ++ [x]).length = l.length + 1 := by simp
  have hnews : ∀ j u, ([.int .u32 (x : Int)] : List Value)[j]? = some u → w.cell? (ad.add j) = some u := fun j u hj => by
    cases j with
    | zero => simp at hj; subst hj; simpa [Addr.add] using hx
    | succ j => simp at hj
  have hall : ∀ (cs : Array Value) (o : Nat), (∀ j y, l[j]? = some y → cs[o + j]? = some (.int .u32 ((y : Nat) : Int))) → cs[o + l.length]? = some (.int .u32 (x : Int)) → ∀ j y, (l ++ [x])[j]? = some y → cs[o + j]? = some (.int .u32 ((y : Nat) : Int)) := fun cs o h1 h2 j y hj => by
    rcases Nat.lt_or_ge j l.length with hlt | hge
    · rw [List.getElem?_append_left hlt] at hj
      exact h1 j y hj
    · have hj2 := (List.getElem?_eq_some_iff.1 hj).1
      rw [hlen] at hj2
      obtain rfl : j = l.length := by omega
      rw [List.getElem?_append_right (Nat.le_refl _), Nat.sub_self] at hj
      simp at hj
      subst hj
      exact h2
  by_cases hroom : l.length + 1 ≤ cap
  · have hf := run_firstCells_some (P := Tryd.prog) w i0.size 1 ad 1 c [.int .u32 (x : Int)] (by rw [hz1]; rfl) hnews
    have hadd : (⟨g, off, none⟩ : Addr).add l.length = ⟨g, off + l.length, none⟩ := by unfold Addr.add; split <;> simp_all
    have hst2 := run_storeCells_cells (P := Tryd.prog) g (off + l.length) [.int .u32 (x : Int)] 0 w (fun j hj => by
      simp at hj
      subst hj
      show (w.cell? ⟨g, off + l.length, none⟩).isSome = true
      rw [hg.cell, Array.getElem?_eq_getElem (by omega)]
      rfl) (fun j hj => hg.frozen _) (fun u hu => by rw [List.mem_singleton.1 hu]; rfl)
    simp only [Nat.add_zero, World.setCells] at hst2
    have hff := run_firstCells_some (P := Tryd.prog) w 1 1 ad 1 c [.int .u32 (x : Int)] rfl hnews
    refine ⟨.slice (some ⟨g, off, none⟩) (l.length + 1) cap, w.setCell ⟨g, off + l.length, none⟩ (.int .u32 (x : Int)), ?_, ⟨g, off, cap, _, by rw [hlen], hg.set_ (off + l.length) _, by rw [hlen]; exact hroom, hcm, by rw [Array.size_setIfInBounds]; exact hsz, hall _ _ (fun j y hj => ?_) ?_⟩, ⟨rfl, rfl, rfl, by simp [World.setCell], fun k hk hne => Below.heap_setCell w _ _ k (fun e => hne (by rw [e]; rfl))⟩, Or.inl rfl⟩
    · simp [Builtin.append_, run_underlying K34.und, sizeOf, typeInfo, hi, hz1, Builtin.lenOf, hroom, hff, hadd, hst2]
    · have hjl := (List.getElem?_eq_some_iff.1 hj).1
      rw [Array.getElem?_setIfInBounds_ne (by omega)]
      exact hat j y hj
    · rw [Array.getElem?_setIfInBounds_self_of_lt (by omega)]
  · have holds : ∀ j u, (l.map fun y => Value.int .u32 ((y : Nat) : Int))[j]? = some u → w.cell? ((⟨g, off, none⟩ : Addr).add j) = some u := fun j u hj => by
      rw [List.getElem?_map] at hj
      cases hy : l[j]? with
      | none => rw [hy] at hj; cases hj
      | some y =>
        rw [hy] at hj
        injection hj with hj
        have hadd : (⟨g, off, none⟩ : Addr).add j = ⟨g, off + j, none⟩ := by unfold Addr.add; split <;> simp_all
        rw [hadd, hg.cell, hat j y hy]
        exact congrArg some hj
    have hr := run_append_grow (P := Tryd.prog) w 49 ty 34 i0 (.int .u32 0) K34.und hi hz0 ⟨g, off, none⟩ l.length cap (l.map fun y => Value.int .u32 ((y : Nat) : Int)) (by rw [List.length_map, hz1, Nat.mul_one]) holds ad 1 c [.int .u32 (x : Int)] (by rw [hz1]; rfl) hnews (by omega) (by omega) (growslice_fits (by omega) (by rw [hz2]; omega))
    have hge := grownCap_ge w (l.length + 1) cap 34
    have hcm2 : grownCap w (l.length + 1) cap 34 ≤ maxLen := grownCap_le_maxLen w (l.length + 1) cap 34 (by simp only [maxLen]; omega)
    refine ⟨_, _, hr, ⟨w.heap.size, 0, _, _, by rw [hlen], Blk.new w.drew _ _, by rw [hlen]; exact hge, hcm2, ?_, hall _ 0 (fun j y hj => ?_) ?_⟩, ⟨rfl, rfl, rfl, by simp, fun k hk _ => heap_alloc_old w.drew _ hk⟩, Or.inr rfl⟩
    · simp only [Array.size_append, List.size_toArray, List.length_map, size_zeroCells, List.length_singleton, Nat.zero_add]
      have : (Value.int .u32 0).cells.size = 1 := rfl
      rw [this]
      omega
    · have hjl := (List.getElem?_eq_some_iff.1 hj).1
      rw [Nat.zero_add, Array.append_assoc, Array.getElem?_append_left (by simpa using hjl)]
      simp [hj]
    · rw [Nat.zero_add, Array.append_assoc, Array.getElem?_append_right (by simp), Array.getElem?_append_left (by simp)]
      simp
variable {ops : Array Oper} {rest : List Oper} {o : Oper} {a : Act} {Q : Exit → Act → World → Prop}
set_option maxRecDepth 100000 in
theorem wpList_appQ {w : World} (hgd : o.guard = none) (s x : Operand) (ho : o.op = .call { callee := .builtin .append, args := #[s, x], argTypes := #[49, 49] })
    (v : Value) (l : List Nat) (hs : a.eval s = v) (h : QU w v l) (ad : Addr) (c y : Nat) (hx : a.eval x = .slice (some ad) 1 c) (hy : w.cell? ad = some (.int .u32 (y : Int))) (hle : l.length < 35184372088832)
    (hK : ∀ v' w', QU w' v' (l ++ [y]) → w.grownBy w' v.ownBlock → (v'.ownBlock = v.ownBlock ∨ v'.ownBlock = some w.heap.size) → wpList Tryd.prog ops Q rest (a.put o.dst v') w') : wpList Tryd.prog ops Q (o :: rest) a w := by
  refine wpList_plain hgd fun K' hk' => ?_
  obtain ⟨v', w', hrun, h2, h3, h4⟩ := run_appQ w o.type v l h ad c y hy hle
  unfold Oper.wp execOp
  simp only [ho, resolve, invoke, builtin, Sem.run_bind, Sem.run_pure, Result.andThen_ok, List.map_toArray, List.map_cons, List.map_nil, hs, hx, hrun]
  exact hk' _ _ (hK v' w' h2 h3 h4)
end Go.Proofs.YtlblgfpafdfilaaDoor
