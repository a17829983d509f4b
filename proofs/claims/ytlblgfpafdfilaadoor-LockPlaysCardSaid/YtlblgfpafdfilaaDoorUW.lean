/-
WHOLE STRUCTS into and out of blocks that are known whole.
-/
import Derived.Test.YtlblgfpafdfilaaDoorWords
import Derived.Deep.MidRow
namespace Go.Proofs.YtlblgfpafdfilaaDoor
open Go.RowKit

theorem fr_set {w w' : World} {g : Nat} (h : Fr w w' fun b => b = g) (i : Nat) (u : Value) : Fr w (w'.setCell ⟨g, i, none⟩ u) fun b => b = g := h.setCell (p := ⟨g, i, none⟩) (Or.inl rfl) u
/-- values put into a row, from a place on -/
def setsA (cs : Array Value) : Nat → List Value → Array Value
  | _, [] => cs
  | o, v :: r => setsA (cs.setIfInBounds o v) (o + 1) r
set_option maxRecDepth 100000 in
theorem Blk.sets {w : World} {g : Nat} {t : TypeId} {cs : Array Value} (h : Blk w g t cs) (vs : List Value) (o : Nat) : Blk (w.setCells g o vs) g t (setsA cs o vs) := by
  induction vs generalizing w o cs with
  | nil => exact h
  | cons v r ih => exact ih (h.set_ o v) (o + 1)
set_option maxRecDepth 100000 in
theorem Fr.sets (w : World) (g : Nat) (vs : List Value) (o : Nat) : Fr w (w.setCells g o vs) fun b => b = g := by
  have key : ∀ (vs : List Value) (o : Nat) (w' : World), Fr w w' (fun b => b = g) → Fr w (w'.setCells g o vs) fun b => b = g := by
    intro vs
    induction vs with
    | nil => intro o w' h; exact h
    | cons v r ih => intro o w' h; exact ih (o + 1) _ (fr_set h o v)
  exact key vs o w (Fr.refl w _)
set_option maxRecDepth 100000 in
theorem Fr.row {w : World} {g : Nat} {t : TypeId} {cs cs' : Array Value} (h : Blk w g t cs) : Blk (w.setRow g cs') g t cs' ∧ Fr w (w.setRow g cs') fun b => b = g := by
  refine ⟨setRow_heap w g _ _ _ _ h, ?_⟩
  refine ⟨rfl, rfl, rfl, by rw [setRow_size]; exact Nat.le_refl _, fun b _ hn => setRow_other w g b _ hn⟩
set_option maxRecDepth 100000 in
theorem all1 {cs : Array Value} (h : cs.toList.all (·.oneCell') = true) : cs.all (·.oneCell') = true := by
  rw [← Array.all_toList]; exact h
section
variable {ops : Array Oper} {rest : List Oper} {o : Oper} {a : Act} {w : World} {Q : Exit → Act → World → Prop}
set_option maxRecDepth 100000 in
/-- a whole struct into its block -/
theorem wpList_stB (hgd : o.guard = none) (ty : TypeId) (x y : Operand) (ho : o.op = .store ty x y) (g : Nat) (cs' : Array Value) (hx : a.eval x = .pointer (some ⟨g, 0, none⟩)) (hy : a.eval y = .agg cs')
    (t : TypeId) (cs : Array Value) (hb : Blk w g t cs) (hi : (Tryd.prog.info? ty).map (·.size) = some cs'.size) (hs : cs.size = cs'.size) (h1 : cs'.toList.all (·.oneCell') = true)
    (hK : ∀ w', Blk w' g t cs' → Fr w w' (fun b => b = g) → wpList Tryd.prog ops Q rest (a.put o.dst undef) w') : wpList Tryd.prog ops Q (o :: rest) a w :=
  wpList_store_row hgd ty x y ho g cs' hx hy t cs hb hi hs (all1 h1) (hK _ (Fr.row hb).1 (Fr.row hb).2)
set_option maxRecDepth 100000 in
/-- a struct into the middle of a block -/
theorem wpList_stM (hgd : o.guard = none) (ty : TypeId) (x y : Operand) (ho : o.op = .store ty x y) (g k : Nat) (vs : List Value) (hx : a.eval x = .pointer (some ⟨g, k, none⟩)) (hy : a.eval y = .agg vs.toArray)
    (t : TypeId) (cs : Array Value) (hb : Blk w g t cs) (hi : (Tryd.prog.info? ty).map (·.size) = some vs.length) (hs : k + vs.length ≤ cs.size) (h1 : vs.all (·.oneCell') = true)
    (hK : ∀ w', Blk w' g t (setsA cs k vs) → Fr w w' (fun b => b = g) → wpList Tryd.prog ops Q rest (a.put o.dst undef) w') : wpList Tryd.prog ops Q (o :: rest) a w := by
  refine wpList_store_mid hgd ty x y ho g k vs.toArray hx hy (fun j hj => ⟨?_, hb.frozen _⟩) (by simpa using hi) (all1 (by simpa using h1)) ?_
  · rw [hb.cell, Array.getElem?_eq_getElem (by simp at hj; omega)]
    rfl
  · simpa using hK _ (hb.sets vs k) (Fr.sets w g vs k)
set_option maxRecDepth 100000 in
/-- one value into a block -/
theorem wpList_st1 (hgd : o.guard = none) (ty : TypeId) (x y : Operand) (ho : o.op = .store ty x y) (g k : Nat) (v : Value) (hx : a.eval x = .pointer (some ⟨g, k, none⟩)) (hy : a.eval y = v)
    (t : TypeId) (cs : Array Value) (hb : Blk w g t cs) (hr : (Instr.storeAt ty (.pointer (some ⟨g, k, none⟩)) v).run Tryd.prog w = .ok () (w.setCell ⟨g, k, none⟩ v))
    (hK : ∀ w', Blk w' g t (cs.setIfInBounds k v) → Fr w w' (fun b => b = g) → wpList Tryd.prog ops Q rest (a.put o.dst undef) w') : wpList Tryd.prog ops Q (o :: rest) a w := by
  refine wpList_plain hgd fun K hk => ?_
  unfold Oper.wp execOp
  simp only [ho, hx, hy, hr, Result.andThen_ok, Sem.run_bind, Sem.run_pure]
  exact hk _ _ (hK _ (hb.set_ k v) (fr_set (Fr.refl w _) k v))
set_option maxRecDepth 100000 in
/-- a whole struct out of its block -/
theorem wpList_ldB (hgd : o.guard = none) (ty : TypeId) (x : Operand) (ho : o.op = .load ty x) (g : Nat) (hx : a.eval x = .pointer (some ⟨g, 0, none⟩)) (t : TypeId) (cs : Array Value) (d : TypeDesc) (hb : Blk w g t cs)
    (hu : Tryd.prog.underlying ty = some d) (hd : d.isRow = true) (hi : (Tryd.prog.info? ty).map (·.size) = some cs.size)
    (h : wpList Tryd.prog ops Q rest (a.put o.dst (.agg cs)) w) : wpList Tryd.prog ops Q (o :: rest) a w :=
  wpList_load_mid hgd ty x ho g 0 hx cs.toList d (fun j v hv => by rw [Nat.zero_add, hb.cell]; simpa using hv) hu hd (by simpa using hi) (by simpa using h)
end
theorem size36 : (Tryd.prog.info? 36).map (·.size) = some 4 := by kernel_rfl
theorem size46 : (Tryd.prog.info? 46).map (·.size) = some 7 := by kernel_rfl
theorem size38 : (Tryd.prog.info? 38).map (·.size) = some 7 := by kernel_rfl
end Go.Proofs.YtlblgfpafdfilaaDoor
