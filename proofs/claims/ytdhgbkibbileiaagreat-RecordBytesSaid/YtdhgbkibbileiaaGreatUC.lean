/-
  ROWS of live transactions and of dirty pages, put behind a row of the call's own.
  WHOLE STRUCTS into and out of blocks that are known whole.
  THE DOCUMENT's Copy of a record.
-/
import Derived.Test.YtdhgbkibbileiaaGreatRQ
import Derived.Test.YtdhgbkibbileiaaGreatPE
import Derived.Test.YtdhgbkibbileiaaGreatPR
import Derived.Deep.MidRow
import Derived.Test.YtdhgbkibbileiaaGreatSD
import Derived.OrdersHeld
import Derived.Deep.Cut
import Derived.Deep.RegionHeld
namespace Go.Proofs.YtdhgbkibbileiaaGreat
open Go.RowKit

theorem LV.In.any {x : LV} {w w' : World} {S S' : Nat → Prop} (h : x.In w S) : x.In w' S' := ⟨h.t, h.a, h.b⟩
theorem DV.In.any {x : DV} {w w' : World} {S S' : Nat → Prop} (h : x.In w S) : x.In w' S' := ⟨h.t, h.a⟩
set_option maxRecDepth 100000 in
theorem lvs_of (vs : List LV) (j : Nat) (u : Value) (h : (lvs vs)[j]? = some u) : ∃ i v, vs[i]? = some v ∧ ((j = i * 4 ∧ u = .int .u32 (v.t : Int)) ∨ (j = i * 4 + 1 ∧ u = .int .u64 (v.a : Int)) ∨ (j = i * 4 + 2 ∧ u = .int .u64 (v.b : Int)) ∨ (j = i * 4 + 3 ∧ u = .bool v.z)) := by
  have hl : j < (lvs vs).length := by
    rcases Nat.lt_or_ge j (lvs vs).length with h1 | h1
    · exact h1
    · rw [List.getElem?_eq_none h1] at h; cases h
  rw [lvs_len] at hl
  have hi : j / 4 < vs.length := by omega
  have hv : vs[j / 4]? = some vs[j / 4] := List.getElem?_eq_getElem hi
  obtain ⟨a, b, c, d⟩ := lvs_at vs _ _ hv
  refine ⟨j / 4, _, hv, ?_⟩
  have hr : j = j / 4 * 4 ∨ j = j / 4 * 4 + 1 ∨ j = j / 4 * 4 + 2 ∨ j = j / 4 * 4 + 3 := by omega
  rcases hr with hr | hr | hr | hr
  · left; refine ⟨hr, ?_⟩; rw [← hr] at a; rw [a] at h; injection h with h; exact h.symm
  · right; left; refine ⟨hr, ?_⟩; rw [← hr] at b; rw [b] at h; injection h with h; exact h.symm
  · right; right; left; refine ⟨hr, ?_⟩; rw [← hr] at c; rw [c] at h; injection h with h; exact h.symm
  · right; right; right; refine ⟨hr, ?_⟩; rw [← hr] at d; rw [d] at h; injection h with h; exact h.symm
set_option maxRecDepth 100000 in
theorem LVR.cells {w : World} {S : Nat → Prop} {g o m : Nat} {ks : List LV} (hr : LVR w S (some ⟨g, o, none⟩) m ks) : ∀ j u, (lvs ks)[j]? = some u → w.cell? ((⟨g, o, none⟩ : Addr).add j) = some u := by
  intro j u hu
  obtain ⟨i, x, hi, hx⟩ := lvs_of ks j u hu
  have hil : i < ks.length := by
    rcases Nat.lt_or_ge i ks.length with h | h
    · exact h
    · rw [List.getElem?_eq_none h] at hi; cases hi
  obtain ⟨h1, _, _, h3⟩ := hr
  obtain ⟨g', o', e, _, _, hc⟩ := h3 (by omega)
  injection e with e
  injection e with e1 e2
  subst e1 e2
  have hadd : (⟨g, o, none⟩ : Addr).add j = ⟨g, o + j, none⟩ := by unfold Addr.add; split <;> simp_all
  obtain ⟨c0, c1, c2, c3⟩ := hc i x hi
  rw [hadd]
  rcases hx with ⟨rfl, rfl⟩ | ⟨rfl, rfl⟩ | ⟨rfl, rfl⟩ | ⟨rfl, rfl⟩
  · exact c0
  · exact c1
  · exact c2
  · exact c3
section
variable {w : World} {S T S' : Nat → Prop}
set_option maxRecDepth 100000 in
theorem run_appLVm (ty : TypeId) (v : Value) (n : Nat) (l : List LV) (h : OwLV w S T v n l) (A : Option Addr) (m c : Nat) (ks : List LV) (hr : LVR w S' A m ks) (hb : (n + m) * 32 ≤ 140737488355328) :
    ∃ v' w', (Builtin.append_ #[28, 28] ty #[v, .slice A m c]).run Tryz.prog w = .ok v' w' ∧ OwLV w' (fun b => S b ∨ w.heap.size ≤ b) (fun b => T b ∧ b < w.heap.size) v' (n + m) (l ++ ks) ∧ w.grownBy w' v.ownBlock := by
  obtain ⟨i0, hi, hz0, hz1, hz2⟩ := info_parts infoLV
  have hin : ∀ w', w.grownBy w' v.ownBlock → ∀ x ∈ l ++ ks, x.In w' (fun b => T b ∧ b < w.heap.size) := by
    intro w' hg x hx
    have hxi : x.In w T := by
      rcases List.mem_append.1 hx with hx | hx
      · exact h.2.1 x hx
      · exact (hr.2.1 x hx).any
    have hf : Fr w w' (fun b => v.ownBlock = some b) := (Fr.refl w _).grown hg fun k hk => Or.inl hk
    exact (hxi.mono (S' := fun b => T b ∧ b < w.heap.size) fun b hlt hb => ⟨hb, hlt⟩).keep hf fun b hb hk => h.2.2.2 b hk hb.1
  rcases A with _ | ad
  · have hm : m = 0 := by
      rcases Nat.eq_zero_or_pos m with h0 | h0
      · exact h0
      · obtain ⟨_, _, e, _⟩ := hr.2.2.2 h0
        cases e
    subst hm
    have hk : ks = [] := List.eq_nil_of_length_eq_zero hr.1
    subst hk
    refine ⟨v, w, ?_, ?_, World.grownBy.refl w _⟩
    · rcases h.1.2 with ⟨rfl, rfl⟩ | ⟨g, cap, cur, rfl, _, _, hnc, _⟩
      · simp [Builtin.append_, run_underlying Tryz.underlying28, sizeOf, typeInfo, hi, Builtin.lenOf, Builtin.firstCells]
      · simp [Builtin.append_, run_underlying Tryz.underlying28, sizeOf, typeInfo, hi, Builtin.lenOf, Builtin.firstCells, hnc, storeCells]
    · simpa using h.mono (S' := fun b => S b ∨ w.heap.size ≤ b) (T' := fun b => T b ∧ b < w.heap.size) (fun b _ hS => Or.inl hS) (fun b hlt hT => ⟨hT, hlt⟩) fun k hk hT => h.2.2.2 k hk hT.1
  · have hcells : ∀ j u, (lvs ks)[j]? = some u → w.cell? (ad.add j) = some u := by
      rcases Nat.eq_zero_or_pos m with hm | hm
      · have hk : ks = [] := List.eq_nil_of_length_eq_zero (by rw [hr.1]; exact hm)
        subst hk
        intro j u hj
        simp [lvs] at hj
      · obtain ⟨g, o, e, _, _⟩ := hr.2.2.2 hm
        injection e with e
        subst e
        exact hr.cells
    obtain ⟨v', w', h1, h2, h3, _, h5⟩ := run_append_own_at (P := Tryz.prog) w 0 28 ty 62 i0 (.agg #[.int .u32 0, .int .u64 0, .int .u64 0, .bool false]) 4 32 Tryz.underlying28 hi hz0 hz1 hz2 (by decide) (by decide) v n (lvs l) h.1 ad m c (lvs ks)
      (by rw [lvs_len, hr.1]) hcells (lvs_one ks) (by simp only [maxLen]; omega) hb (Nat.zero_le _)
    rw [← lvs_append] at h2
    refine ⟨v', w', h1, ⟨h2, hin w' h3, fun q hq => ?_, fun q hq hT => ?_⟩, h3⟩
    · rcases h5 with h5 | h5
      · exact Or.inl (h.2.2.1 q (by rw [← h5]; exact hq))
      · rw [h5] at hq
        injection hq with hq
        exact Or.inr (by omega)
    · rcases h5 with h5 | h5
      · exact h.2.2.2 q (by rw [← h5]; exact hq) hT.1
      · rw [h5] at hq
        injection hq with hq
        have := hT.2
        omega
variable {ops : Array Oper} {rest : List Oper} {o : Oper} {a : Act} {Q : Exit → Act → World → Prop}
set_option maxRecDepth 100000 in
theorem wpList_appLVm (hgd : o.guard = none) (s x : Operand) (ho : o.op = .call { callee := .builtin .append, args := #[s, x], argTypes := #[28, 28] })
    (v : Value) (n : Nat) (l : List LV) (hs : a.eval s = v) (h : OwLV w S T v n l) (A : Option Addr) (m c : Nat) (ks : List LV) (hx : a.eval x = .slice A m c) (hr : LVR w S' A m ks) (hb : (n + m) * 32 ≤ 140737488355328)
    (hK : ∀ v' w', OwLV w' (fun b => S b ∨ w.heap.size ≤ b) (fun b => T b ∧ b < w.heap.size) v' (n + m) (l ++ ks) → w.grownBy w' v.ownBlock → wpList Tryz.prog ops Q rest (a.put o.dst v') w') : wpList Tryz.prog ops Q (o :: rest) a w := by
  refine wpList_plain hgd fun K hk => ?_
  obtain ⟨v', w', hrun, h2, h3⟩ := run_appLVm o.type v n l h A m c ks hr hb
  unfold Oper.wp execOp
  simp only [ho, resolve, invoke, builtin, Sem.run_bind, Sem.run_pure, Result.andThen_ok, List.map_toArray, List.map_cons, List.map_nil, hs, hx, hrun]
  exact hk _ _ (hK v' w' h2 h3)
end
set_option maxRecDepth 100000 in
theorem OwLV.made (w : World) (S T : Nat → Prop) (hS : S w.heap.size) (hT : ¬ T w.heap.size) : OwLV (w.alloc (.cells #[] 62)) S T (.slice (some ⟨w.heap.size, 0, none⟩) 0 0) 0 [] :=
  ⟨World.ownsRow_made (e := 62) (size := 4) w #[] 0 (Nat.zero_le _) (by simp [maxLen]) (by simp), by simp, (fun k hk => by simp [Value.ownBlock] at hk; subst hk; exact hS), fun k hk => by simp [Value.ownBlock] at hk; subst hk; exact hT⟩
set_option maxRecDepth 100000 in
theorem dvs_of (vs : List DV) (j : Nat) (u : Value) (h : (dvs vs)[j]? = some u) : ∃ i v, vs[i]? = some v ∧ ((j = i * 2 ∧ u = .int .u32 (v.t : Int)) ∨ (j = i * 2 + 1 ∧ u = .int .u64 (v.a : Int))) := by
  have hl : j < (dvs vs).length := by
    rcases Nat.lt_or_ge j (dvs vs).length with h1 | h1
    · exact h1
    · rw [List.getElem?_eq_none h1] at h; cases h
  rw [dvs_len] at hl
  have hi : j / 2 < vs.length := by omega
  have hv : vs[j / 2]? = some vs[j / 2] := List.getElem?_eq_getElem hi
  obtain ⟨a, b⟩ := dvs_at vs _ _ hv
  refine ⟨j / 2, _, hv, ?_⟩
  have hr : j = j / 2 * 2 ∨ j = j / 2 * 2 + 1 := by omega
  rcases hr with hr | hr
  · left; refine ⟨hr, ?_⟩; rw [← hr] at a; rw [a] at h; injection h with h; exact h.symm
  · right; refine ⟨hr, ?_⟩; rw [← hr] at b; rw [b] at h; injection h with h; exact h.symm
set_option maxRecDepth 100000 in
theorem DVR.cells {w : World} {S : Nat → Prop} {g o m : Nat} {ks : List DV} (hr : DVR w S (some ⟨g, o, none⟩) m ks) : ∀ j u, (dvs ks)[j]? = some u → w.cell? ((⟨g, o, none⟩ : Addr).add j) = some u := by
  intro j u hu
  obtain ⟨i, x, hi, hx⟩ := dvs_of ks j u hu
  have hil : i < ks.length := by
    rcases Nat.lt_or_ge i ks.length with h | h
    · exact h
    · rw [List.getElem?_eq_none h] at hi; cases hi
  obtain ⟨h1, _, _, h3⟩ := hr
  obtain ⟨g', o', e, _, _, hc⟩ := h3 (by omega)
  injection e with e
  injection e with e1 e2
  subst e1 e2
  have hadd : (⟨g, o, none⟩ : Addr).add j = ⟨g, o + j, none⟩ := by unfold Addr.add; split <;> simp_all
  obtain ⟨c0, c1⟩ := hc i x hi
  rw [hadd]
  rcases hx with ⟨rfl, rfl⟩ | ⟨rfl, rfl⟩
  · exact c0
  · exact c1
section
variable {w : World} {S T S' : Nat → Prop}
set_option maxRecDepth 100000 in
theorem run_appDVm (ty : TypeId) (v : Value) (n : Nat) (l : List DV) (h : OwDV w S T v n l) (A : Option Addr) (m c : Nat) (ks : List DV) (hr : DVR w S' A m ks) (hb : (n + m) * 16 ≤ 140737488355328) :
    ∃ v' w', (Builtin.append_ #[29, 29] ty #[v, .slice A m c]).run Tryz.prog w = .ok v' w' ∧ OwDV w' (fun b => S b ∨ w.heap.size ≤ b) (fun b => T b ∧ b < w.heap.size) v' (n + m) (l ++ ks) ∧ w.grownBy w' v.ownBlock := by
  obtain ⟨i0, hi, hz0, hz1, hz2⟩ := info_parts infoDV
  have hin : ∀ w', w.grownBy w' v.ownBlock → ∀ x ∈ l ++ ks, x.In w' (fun b => T b ∧ b < w.heap.size) := by
    intro w' hg x hx
    have hxi : x.In w T := by
      rcases List.mem_append.1 hx with hx | hx
      · exact h.2.1 x hx
      · exact (hr.2.1 x hx).any
    have hf : Fr w w' (fun b => v.ownBlock = some b) := (Fr.refl w _).grown hg fun k hk => Or.inl hk
    exact (hxi.mono (S' := fun b => T b ∧ b < w.heap.size) fun b hlt hb => ⟨hb, hlt⟩).keep hf fun b hb hk => h.2.2.2 b hk hb.1
  rcases A with _ | ad
  · have hm : m = 0 := by
      rcases Nat.eq_zero_or_pos m with h0 | h0
      · exact h0
      · obtain ⟨_, _, e, _⟩ := hr.2.2.2 h0
        cases e
    subst hm
    have hk : ks = [] := List.eq_nil_of_length_eq_zero hr.1
    subst hk
    refine ⟨v, w, ?_, ?_, World.grownBy.refl w _⟩
    · rcases h.1.2 with ⟨rfl, rfl⟩ | ⟨g, cap, cur, rfl, _, _, hnc, _⟩
      · simp [Builtin.append_, run_underlying Tryz.underlying29, sizeOf, typeInfo, hi, Builtin.lenOf, Builtin.firstCells]
      · simp [Builtin.append_, run_underlying Tryz.underlying29, sizeOf, typeInfo, hi, Builtin.lenOf, Builtin.firstCells, hnc, storeCells]
    · simpa using h.mono (S' := fun b => S b ∨ w.heap.size ≤ b) (T' := fun b => T b ∧ b < w.heap.size) (fun b _ hS => Or.inl hS) (fun b hlt hT => ⟨hT, hlt⟩) fun k hk hT => h.2.2.2 k hk hT.1
  · have hcells : ∀ j u, (dvs ks)[j]? = some u → w.cell? (ad.add j) = some u := by
      rcases Nat.eq_zero_or_pos m with hm | hm
      · have hk : ks = [] := List.eq_nil_of_length_eq_zero (by rw [hr.1]; exact hm)
        subst hk
        intro j u hj
        simp [dvs] at hj
      · obtain ⟨g, o, e, _, _⟩ := hr.2.2.2 hm
        injection e with e
        subst e
        exact hr.cells
    obtain ⟨v', w', h1, h2, h3, _, h5⟩ := run_append_own_at (P := Tryz.prog) w 0 29 ty 64 i0 (.agg #[.int .u32 0, .int .u64 0]) 2 16 Tryz.underlying29 hi hz0 hz1 hz2 (by decide) (by decide) v n (dvs l) h.1 ad m c (dvs ks)
      (by rw [dvs_len, hr.1]) hcells (dvs_one ks) (by simp only [maxLen]; omega) hb (Nat.zero_le _)
    rw [← dvs_append] at h2
    refine ⟨v', w', h1, ⟨h2, hin w' h3, fun q hq => ?_, fun q hq hT => ?_⟩, h3⟩
    · rcases h5 with h5 | h5
      · exact Or.inl (h.2.2.1 q (by rw [← h5]; exact hq))
      · rw [h5] at hq
        injection hq with hq
        exact Or.inr (by omega)
    · rcases h5 with h5 | h5
      · exact h.2.2.2 q (by rw [← h5]; exact hq) hT.1
      · rw [h5] at hq
        injection hq with hq
        have := hT.2
        omega
variable {ops : Array Oper} {rest : List Oper} {o : Oper} {a : Act} {Q : Exit → Act → World → Prop}
set_option maxRecDepth 100000 in
theorem wpList_appDVm (hgd : o.guard = none) (s x : Operand) (ho : o.op = .call { callee := .builtin .append, args := #[s, x], argTypes := #[29, 29] })
    (v : Value) (n : Nat) (l : List DV) (hs : a.eval s = v) (h : OwDV w S T v n l) (A : Option Addr) (m c : Nat) (ks : List DV) (hx : a.eval x = .slice A m c) (hr : DVR w S' A m ks) (hb : (n + m) * 16 ≤ 140737488355328)
    (hK : ∀ v' w', OwDV w' (fun b => S b ∨ w.heap.size ≤ b) (fun b => T b ∧ b < w.heap.size) v' (n + m) (l ++ ks) → w.grownBy w' v.ownBlock → wpList Tryz.prog ops Q rest (a.put o.dst v') w') : wpList Tryz.prog ops Q (o :: rest) a w := by
  refine wpList_plain hgd fun K hk => ?_
  obtain ⟨v', w', hrun, h2, h3⟩ := run_appDVm o.type v n l h A m c ks hr hb
  unfold Oper.wp execOp
  simp only [ho, resolve, invoke, builtin, Sem.run_bind, Sem.run_pure, Result.andThen_ok, List.map_toArray, List.map_cons, List.map_nil, hs, hx, hrun]
  exact hk _ _ (hK v' w' h2 h3)
end
set_option maxRecDepth 100000 in
theorem OwDV.made (w : World) (S T : Nat → Prop) (hS : S w.heap.size) (hT : ¬ T w.heap.size) : OwDV (w.alloc (.cells #[] 64)) S T (.slice (some ⟨w.heap.size, 0, none⟩) 0 0) 0 [] :=
  ⟨World.ownsRow_made (e := 64) (size := 2) w #[] 0 (Nat.zero_le _) (by simp [maxLen]) (by simp), by simp, (fun k hk => by simp [Value.ownBlock] at hk; subst hk; exact hS), fun k hk => by simp [Value.ownBlock] at hk; subst hk; exact hT⟩
end Go.Proofs.YtdhgbkibbileiaaGreat
namespace Go.Proofs.YtdhgbkibbileiaaGreat
open Go.RowKit

/-- values put into a row, from a place on -/
def setsA (cs : Array Value) : Nat → List Value → Array Value
  | _, [] => cs
  | o, v :: r => setsA (cs.setIfInBounds o v) (o + 1) r
theorem Blk.sets {w : World} {g : Nat} {t : TypeId} {cs : Array Value} (h : Blk w g t cs) (vs : List Value) (o : Nat) : Blk (w.setCells g o vs) g t (setsA cs o vs) := by
  induction vs generalizing w o cs with
  | nil => exact h
  | cons v r ih => exact ih (h.set_ o v) (o + 1)
theorem Fr.sets (w : World) (g : Nat) (vs : List Value) (o : Nat) : Fr w (w.setCells g o vs) fun b => b = g := by
  have key : ∀ (vs : List Value) (o : Nat) (w' : World), Fr w w' (fun b => b = g) → Fr w (w'.setCells g o vs) fun b => b = g := by
    intro vs
    induction vs with
    | nil => intro o w' h; exact h
    | cons v r ih => intro o w' h; exact ih (o + 1) _ (fr_set h o v)
  exact key vs o w (Fr.refl w _)
theorem Fr.row {w : World} {g : Nat} {t : TypeId} {cs cs' : Array Value} (h : Blk w g t cs) : Blk (w.setRow g cs') g t cs' ∧ Fr w (w.setRow g cs') fun b => b = g := by
  refine ⟨setRow_heap w g _ _ _ _ h, ?_⟩
  refine ⟨rfl, rfl, rfl, by rw [setRow_size]; exact Nat.le_refl _, fun b _ hn => setRow_other w g b _ hn⟩
theorem all1 {cs : Array Value} (h : cs.toList.all (·.oneCell') = true) : cs.all (·.oneCell') = true := by
  rw [← Array.all_toList]; exact h
section
variable {ops : Array Oper} {rest : List Oper} {o : Oper} {a : Act} {w : World} {Q : Exit → Act → World → Prop}
/-- a whole struct into its block -/
theorem wpList_stB (hgd : o.guard = none) (ty : TypeId) (x y : Operand) (ho : o.op = .store ty x y) (g : Nat) (cs' : Array Value) (hx : a.eval x = .pointer (some ⟨g, 0, none⟩)) (hy : a.eval y = .agg cs')
    (t : TypeId) (cs : Array Value) (hb : Blk w g t cs) (hi : (Tryz.prog.info? ty).map (·.size) = some cs'.size) (hs : cs.size = cs'.size) (h1 : cs'.toList.all (·.oneCell') = true)
    (hK : ∀ w', Blk w' g t cs' → Fr w w' (fun b => b = g) → wpList Tryz.prog ops Q rest (a.put o.dst undef) w') : wpList Tryz.prog ops Q (o :: rest) a w :=
  wpList_store_row hgd ty x y ho g cs' hx hy t cs hb hi hs (all1 h1) (hK _ (Fr.row hb).1 (Fr.row hb).2)
/-- a struct into the middle of a block -/
theorem wpList_stM (hgd : o.guard = none) (ty : TypeId) (x y : Operand) (ho : o.op = .store ty x y) (g k : Nat) (vs : List Value) (hx : a.eval x = .pointer (some ⟨g, k, none⟩)) (hy : a.eval y = .agg vs.toArray)
    (t : TypeId) (cs : Array Value) (hb : Blk w g t cs) (hi : (Tryz.prog.info? ty).map (·.size) = some vs.length) (hs : k + vs.length ≤ cs.size) (h1 : vs.all (·.oneCell') = true)
    (hK : ∀ w', Blk w' g t (setsA cs k vs) → Fr w w' (fun b => b = g) → wpList Tryz.prog ops Q rest (a.put o.dst undef) w') : wpList Tryz.prog ops Q (o :: rest) a w := by
  refine wpList_store_mid hgd ty x y ho g k vs.toArray hx hy (fun j hj => ⟨?_, hb.frozen _⟩) (by simpa using hi) (all1 (by simpa using h1)) ?_
  · rw [hb.cell, Array.getElem?_eq_getElem (by simp at hj; omega)]
    rfl
  · simpa using hK _ (hb.sets vs k) (Fr.sets w g vs k)
/-- one value into a block -/
theorem wpList_st1 (hgd : o.guard = none) (ty : TypeId) (x y : Operand) (ho : o.op = .store ty x y) (g k : Nat) (v : Value) (hx : a.eval x = .pointer (some ⟨g, k, none⟩)) (hy : a.eval y = v)
    (t : TypeId) (cs : Array Value) (hb : Blk w g t cs) (hr : (Instr.storeAt ty (.pointer (some ⟨g, k, none⟩)) v).run Tryz.prog w = .ok () (w.setCell ⟨g, k, none⟩ v))
    (hK : ∀ w', Blk w' g t (cs.setIfInBounds k v) → Fr w w' (fun b => b = g) → wpList Tryz.prog ops Q rest (a.put o.dst undef) w') : wpList Tryz.prog ops Q (o :: rest) a w := by
  refine wpList_plain hgd fun K hk => ?_
  unfold Oper.wp execOp
  simp only [ho, hx, hy, hr, Result.andThen_ok, Sem.run_bind, Sem.run_pure]
  exact hk _ _ (hK _ (hb.set_ k v) (fr_set (Fr.refl w _) k v))
/-- a whole struct out of its block -/
theorem wpList_ldB (hgd : o.guard = none) (ty : TypeId) (x : Operand) (ho : o.op = .load ty x) (g : Nat) (hx : a.eval x = .pointer (some ⟨g, 0, none⟩)) (t : TypeId) (cs : Array Value) (d : TypeDesc) (hb : Blk w g t cs)
    (hu : Tryz.prog.underlying ty = some d) (hd : d.isRow = true) (hi : (Tryz.prog.info? ty).map (·.size) = some cs.size)
    (h : wpList Tryz.prog ops Q rest (a.put o.dst (.agg cs)) w) : wpList Tryz.prog ops Q (o :: rest) a w :=
  wpList_load_mid hgd ty x ho g 0 hx cs.toList d (fun j v hv => by rw [Nat.zero_add, hb.cell]; simpa using hv) hu hd (by simpa using hi) (by simpa using h)
end
theorem size31 : (Tryz.prog.info? 31).map (·.size) = some 15 := by kernel_rfl
theorem size53 : (Tryz.prog.info? 53).map (·.size) = some 5 := by kernel_rfl
theorem size55 : (Tryz.prog.info? 55).map (·.size) = some 3 := by kernel_rfl
theorem size62 : (Tryz.prog.info? 62).map (·.size) = some 4 := by kernel_rfl
theorem size64 : (Tryz.prog.info? 64).map (·.size) = some 2 := by kernel_rfl
theorem size26 : (Tryz.prog.info? 26).map (·.size) = some 4 := by kernel_rfl
end Go.Proofs.YtdhgbkibbileiaaGreat
namespace Go.Proofs.YtdhgbkibbileiaaGreat
open Go.RowKit

section
variable {w : World} {S T : Nat → Prop} {o : Oper} {a : Act} {K : Act → World → Prop} {Q : Exit → Act → World → Prop}
theorem wp_appIV (s x : Operand) (ho : o.op = .call { callee := .builtin .append, args := #[s, x], argTypes := #[27, 27] })
    (v : Value) (n : Nat) (l : List IV) (hs : a.eval s = v) (h : OwIV w S T v n l) (g c : Nat) (y : IV) (hx : a.eval x = .slice (some ⟨g, 0, none⟩) 1 c) (hy : Blk w g 53 #[.int .u32 (y.t : Int), .int .i64 y.p.k, .int .u64 (y.p.s : Int), .int .u32 (y.p.x : Int), .slice y.p.A y.p.n y.p.c]) (hyi : y.In w T) (hb : (n + 1) * 56 ≤ 140737488355328)
    (hK : ∀ v' w', OwIV w' (fun b => S b ∨ w.heap.size ≤ b) (fun b => T b ∧ b < w.heap.size) v' (n + 1) (l ++ [y]) → w.grownBy w' v.ownBlock → K (a.put o.dst v') w') : o.wp Tryz.prog a w K Q := by
  obtain ⟨v', w', hrun, h2, h3⟩ := run_appIV o.type v n l h g c y hy hyi hb
  unfold Oper.wp execOp
  simp only [ho, resolve, invoke, builtin, Sem.run_bind, Sem.run_pure, Result.andThen_ok, List.map_toArray, List.map_cons, List.map_nil, hs, hx, hrun]
  exact hK v' w' h2 h3
end
/-- what Copy comes to -/
def CopR (w : World) (r : RV) (e : Ending) (w' : World) : Prop := ∃ r' : RV, e = .returned r'.agg ∧ r'.e = r.e ∧ r'.In w' All ∧ Below w.heap.size w w'
set_option maxHeartbeats 16000000 in
set_option maxRecDepth 100000 in
theorem rcopy_any (w : World) (r : RV) (h : r.In w All) (hc : Brief r) : Calls Tryz.prog 10 #[r.agg] w (CopR w r) := by
  obtain ⟨W1, hW1, hBW1, hbx1, hsz1⟩ := box_rv w r
  obtain ⟨W, hW⟩ : ∃ W, W1.alloc (.cells #[.int .i64 0, .int .u64 0, .int .u32 0, .int .u64 0, .int .u64 0, .int .u32 0, .int .u32 0, .int .i64 0, .int .i64 0, .int .u32 0, .slice none 0 0, .slice none 0 0, .slice none 0 0, .slice none 0 0, .int .u32 0] 31) = W := ⟨_, rfl⟩
  have hBW : Below w.heap.size w W := by rw [← hW]; exact hBW1.alloc hBW1.size _
  have hbx : Blk W w.heap.size 31 (rcs r) := by rw [← hW]; exact hbx1.alloc _
  have hbr : Blk W W1.heap.size 31 #[.int .i64 0, .int .u64 0, .int .u32 0, .int .u64 0, .int .u64 0, .int .u32 0, .int .u32 0, .int .i64 0, .int .i64 0, .int .u32 0, .slice none 0 0, .slice none 0 0, .slice none 0 0, .slice none 0 0, .int .u32 0] := by rw [← hW]; exact Blk.new W1 31 _
  have hsz : W.heap.size = w.heap.size + 2 := by rw [← hW]; simp [hsz1]
  obtain ⟨y0, y1, y2, y3, y4, y5, y6, y7, y8, y9, y10, y11, y12, y13, y14⟩ := rcs_cells hbx
  have hh := h.keep (Fr.of_below hBW No) fun _ _ hn => hn
  have HH := Lib.hid hh
  have HBW := Lib.hid hBW
  have HBX := Lib.hid hbx
  have HBR := Lib.hid hbr
  have HSZ : Hid (W.heap.size = w.heap.size + 2 ∧ W1.heap.size = w.heap.size + 1) := Lib.hid ⟨hsz, hsz1⟩
  have HC := Lib.hid hc
  have HI0 := Lib.hid (h.i.mono (S' := fun b => b < w.heap.size) fun b hlt _ => hlt)
  have HL0 := Lib.hid (h.l.mono (S' := fun b => b < w.heap.size) fun b hlt _ => hlt)
  have HD0 := Lib.hid (h.d.mono (S' := fun b => b < w.heap.size) fun b hlt _ => hlt)
  have HIN := Lib.hid h
  have HOP := Lib.hid (copyOp_any r.o W hh.o hc.o)
  have hn3 : r.im ≤ 20001 := hc.i
  simp only [rcs] at hW1
  unfold OV.agg at HOP
  unfold RV.agg
  clear h hh hc hBW hbx hsz hBW1 hbx1 hsz1 hbr y0 y1 y2 y3 y4 y5 y6 y11 y12 y13 y14
  go_enter Tryz.func10, Tryz.ntmps10
  go_wp2_with fail
  with_reducible refine HOP.out.mono ?_
  rintro e w2 ⟨A2, c2, rfl, hown, hmc, hnz, hb2⟩
  have hbx2 := HBX.out.below hb2 (by have := HSZ.out; omega)
  have hbr2 := HBR.out.below hb2 (by have := HSZ.out; omega)
  have HBX2 := Lib.hid hbx2
  have HBR2 := Lib.hid hbr2
  have HB2 := Lib.hid hb2
  have HOW := Lib.hid hown
  have HMC := Lib.hid (And.intro hmc hnz)
  clear hown hmc hnz hb2 hbx2 hbr2 y7 y8 y9 y10
  go_wp2_with (refine wpList_stM rfl 26 (.tmp 8) (.tmp 7) rfl w.heap.size 7 [.int .i64 r.o.k, .int .i64 r.o.s, .int .u32 (r.o.t : Int), .slice A2 r.o.m c2] rfl rfl 31 (rcs r) HBX2.out size26 (by show 7 + 4 ≤ 15; decide) rfl ?_; intro w3 hb3 hf3; have HB3 := Lib.hid hb3; have HF3 := Lib.hid hf3; clear hb3 hf3)
  have HB3 : Hid (Blk w3 w.heap.size 31 (#[.int .i64 r.k, .int .u64 (r.s : Int), .int .u32 (r.t : Int), .int .u64 (r.a : Int), .int .u64 (r.b : Int), .int .u32 (r.pg : Int), .int .u32 (r.rt : Int), .int .i64 r.o.k, .int .i64 r.o.s, .int .u32 (r.o.t : Int), .slice A2 r.o.m c2, .slice r.iA r.im r.ic, .slice r.lA r.lm r.lc, .slice r.dA r.dm r.dc, .int .u32 (r.nx : Int)])) := Lib.hid (by have := HB3.out; simpa [setsA, rcs] using this)
  have HR3 := Lib.hid (HBR2.out.keep HF3.out (by have := HSZ.out; omega))
  have HF3W := Lib.hid (((Fr.of_below HB2.out (fun b => b = w.heap.size)).same HF3.out))
  have HSZ3 : Hid (W.heap.size ≤ w3.heap.size) := Lib.hid HF3W.out.size
  have y11 := HB3.out.cell 11
  simp only [List.getElem?_toArray, List.getElem?_cons_zero, List.getElem?_cons_succ] at y11
  have HBW3 : Hid (Below w.heap.size w w3) := Lib.hid ((HBW.out.trans (HB2.out.mono HBW.out.size)).trans (HF3.out.below (fun b hb => by omega) (by have := HB2.out.size; have := HSZ.out; omega)))
  have HOW3 := Lib.hid (HOW.out.keep HF3.out fun b hb he => by have := HSZ.out; omega)
  have HRO := Lib.hid (show Blk w3 W1.heap.size 31 _ from HR3.out)
  go_wp2_with fail
  go_loopw [3, 4] (fun v i wr => ∃ (q : Nat) (xs : List IV), q ≤ r.im ∧ i = .int .i64 (q : Int) ∧ OwIV wr (fun b => w3.heap.size ≤ b) (Beyond w3 v) v q xs ∧ xs.map IV.e = (r.il.take q).map IV.e ∧ Below w3.heap.size w3 wr) (fun _ i _ => r.im - (intOf i).toNat)
  case atStart => exact ⟨0, [], by omega, rfl, OwIV.nil_ _ _ _, rfl, Below.refl _ _⟩
  case round =>
    obtain ⟨q, xs, hq, rfl, how, hxs, hbl⟩ := hrel
    have HOW4 := Lib.hid how
    have HXS := Lib.hid hxs
    have HBL := Lib.hid hbl
    have hz3 : w.heap.size + 2 ≤ w3.heap.size := by have := HSZ3.out; have := HSZ.out; omega
    have HZ3 := Lib.hid hz3
    obtain ⟨vA, vc, rfl, _, _, _, _⟩ := how.reads (by omega)
    have HBB := Lib.hid (HB3.out.below hbl (by omega))
    have HRR := Lib.hid (HRO.out.below hbl (by have := HSZ.out; omega))
    have HBE : Hid (Below w.heap.size w wr) := Lib.hid (HBW3.out.trans (hbl.mono (by omega)))
    have y11 := HBB.out.cell 11
    simp only [List.getElem?_toArray, List.getElem?_cons_zero, List.getElem?_cons_succ] at y11
    clear how hxs hbl hz3
    by_cases hlt : q < r.im
    · have hin : ((q : Int) < (r.im : Int)) := by omega
      have d1 : decide ((q : Int) < (r.im : Int)) = true := decide_eq_true hin
      have hWi : IntKind.i64.wrap ((q : Int) + 1) = ((q + 1 : Nat) : Int) := by rw [IntWalk.i64_in _ (by omega)]; omega
      have hwq : IntKind.i64.wrap (q : Int) = (q : Int) := IntWalk.i64_in _ (by omega)
      obtain ⟨gx, o, x, hA, hgx, hgs, hx, hxi, b0, b1, b2, b3, b4⟩ := (HI0.out.keep (Fr.of_below HBE.out No) fun _ _ hn => hn).at_ hlt
      rw [hA] at y11
      have hsh := HC.out.p x (List.mem_of_getElem? hx)
      have HX := Lib.hid (And.intro hx hxi)
      have HY11 := Lib.hid (fun (wq : World) (hS : Fr wr wq (fun b => w3.heap.size ≤ b)) => (World.cell?_of_block (hS.block w.heap.size HBB.out.lt (fun h => by have := HZ3.out; omega))).trans y11)
      have HC0 := Lib.hid (fun (wq : World) (hS : Fr wr wq (fun b => w3.heap.size ≤ b)) => (World.cell?_of_block (hS.block gx hgx (fun h => by have := HZ3.out; omega))).trans b0)
      have HC1 := Lib.hid (fun (wq : World) (hS : Fr wr wq (fun b => w3.heap.size ≤ b)) => (World.cell?_of_block (hS.block gx hgx (fun h => by have := HZ3.out; omega))).trans b1)
      have HC2 := Lib.hid (fun (wq : World) (hS : Fr wr wq (fun b => w3.heap.size ≤ b)) => (World.cell?_of_block (hS.block gx hgx (fun h => by have := HZ3.out; omega))).trans b2)
      have HC3 := Lib.hid (fun (wq : World) (hS : Fr wr wq (fun b => w3.heap.size ≤ b)) => (World.cell?_of_block (hS.block gx hgx (fun h => by have := HZ3.out; omega))).trans b3)
      have HC4 := Lib.hid (fun (wq : World) (hS : Fr wr wq (fun b => w3.heap.size ≤ b)) => (World.cell?_of_block (hS.block gx hgx (fun h => by have := HZ3.out; omega))).trans b4)
      have HM := Lib.hid (copyPage_any x.p wr.drew ((hxi.p.mono (fun _ _ _ => trivial) (fun _ _ _ => trivial)).keep ((Fr.refl wr No).drew) (fun _ _ hn => hn) (fun _ _ hn => hn)) ⟨hsh.1, hsh.2.1⟩)
      unfold PV.agg at HM
      clear hA hgx hgs hx hxi hsh b0 b1 b2 b3 b4
      go_upto_region 6 with fail
      refine wp_region_held_drew (S := fun wx => Fr wr wx (fun b => w3.heap.size ≤ b)) (by kernel_rfl) ((Fr.refl wr _).drew) (fun hS => ?_)
      refine wpAnyH_take (i := 0) (v := ?_) rfl (by kernel_rfl) (by kernel_rfl) (by kernel_rfl) (fun _ _ _ h => h) (Or.inl ⟨by rfl, ?_⟩) hS ?_
      rotate_left
      · (intro wq hSw; go_simp; try with_reducible rfl)
      refine wpAnyH_take (i := 1) (v := ?_) rfl (by kernel_rfl) (by kernel_rfl) (by kernel_rfl) (fun _ _ _ h => h) (Or.inl ⟨by rfl, ?_⟩) hS ?_
      rotate_left
      · (intro wq hSw; go_simp; try with_reducible rfl)
      simp only [List.getElem_toArray, List.getElem_cons_succ, List.getElem_cons_zero, Act.put, List.setIfInBounds_toArray, List.set_cons_succ, List.set_cons_zero]
      refine wpAnyH_take (i := 2) (v := ?_) rfl (by kernel_rfl) (by kernel_rfl) (by kernel_rfl) (fun _ _ _ h => h) (Or.inl ⟨by rfl, ?_⟩) hS ?_
      rotate_left
      · (intro wq hSw; have hq := HY11.out wq hSw; go_simp; try with_reducible rfl)
      simp only [List.getElem_toArray, List.getElem_cons_succ, List.getElem_cons_zero, Act.put, List.setIfInBounds_toArray, List.set_cons_succ, List.set_cons_zero]
      refine wpAnyH_take (i := 3) (v := ?_) rfl (by kernel_rfl) (by kernel_rfl) (by kernel_rfl) (fun _ _ _ h => h) (Or.inl ⟨by rfl, ?_⟩) hS ?_
      rotate_left
      · (intro wq hSw; go_simp; try with_reducible rfl)
      simp only [List.getElem_toArray, List.getElem_cons_succ, List.getElem_cons_zero, Act.put, List.setIfInBounds_toArray, List.set_cons_succ, List.set_cons_zero]
      refine wpAnyH_take (i := 4) (v := ?_) rfl (by kernel_rfl) (by kernel_rfl) (by kernel_rfl) (fun _ _ _ h => h) (Or.inl ⟨by rfl, ?_⟩) hS ?_
      rotate_left
      · (intro wq hSw; go_simp; try with_reducible rfl)
      simp only [List.getElem_toArray, List.getElem_cons_succ, List.getElem_cons_zero, Act.put, List.setIfInBounds_toArray, List.set_cons_succ, List.set_cons_zero]
      refine wpAnyH_take (i := 5) (v := ?_) rfl (by kernel_rfl) (by kernel_rfl) (by kernel_rfl) (fun _ _ _ h => h) (Or.inl ⟨by rfl, ?_⟩) hS ?_
      rotate_left
      · (intro wq hSw; go_simp; try with_reducible rfl)
      simp only [List.getElem_toArray, List.getElem_cons_succ, List.getElem_cons_zero, Act.put, List.setIfInBounds_toArray, List.set_cons_succ, List.set_cons_zero]
      refine wpAnyH_take (i := 6) (v := ?_) rfl (by kernel_rfl) (by kernel_rfl) (by kernel_rfl) (fun _ _ _ h => h) (Or.inl ⟨by rfl, ?_⟩) hS ?_
      rotate_left
      · (intro wq hSw; have hq := HC0.out wq hSw; go_simp; try with_reducible rfl)
      simp only [List.getElem_toArray, List.getElem_cons_succ, List.getElem_cons_zero, Act.put, List.setIfInBounds_toArray, List.set_cons_succ, List.set_cons_zero]
      refine wpAnyH_take (i := 7) (v := ?_) rfl (by kernel_rfl) (by kernel_rfl) (by kernel_rfl) (fun _ _ _ h => h) (Or.inl ⟨by rfl, ?_⟩) hS ?_
      rotate_left
      · (intro wq hSw; go_simp; try with_reducible rfl)
      simp only [List.getElem_toArray, List.getElem_cons_succ, List.getElem_cons_zero, Act.put, List.setIfInBounds_toArray, List.set_cons_succ, List.set_cons_zero]
      refine wpAnyH_take (i := 8) (v := ?_) rfl (by kernel_rfl) (by kernel_rfl) (by kernel_rfl) (fun _ _ _ h => h) (Or.inl ⟨by rfl, ?_⟩) hS ?_
      rotate_left
      · (intro wq hSw; have hq := HY11.out wq hSw; go_simp; try with_reducible rfl)
      simp only [List.getElem_toArray, List.getElem_cons_succ, List.getElem_cons_zero, Act.put, List.setIfInBounds_toArray, List.set_cons_succ, List.set_cons_zero]
      refine wpAnyH_take (i := 9) (v := ?_) rfl (by kernel_rfl) (by kernel_rfl) (by kernel_rfl) (fun _ _ _ h => h) (Or.inl ⟨by rfl, ?_⟩) hS ?_
      rotate_left
      · (intro wq hSw; go_simp; try with_reducible rfl)
      simp only [List.getElem_toArray, List.getElem_cons_succ, List.getElem_cons_zero, Act.put, List.setIfInBounds_toArray, List.set_cons_succ, List.set_cons_zero]
      refine wpAnyH_take (i := 10) (v := ?_) rfl (by kernel_rfl) (by kernel_rfl) (by kernel_rfl) (fun _ _ _ h => h) (Or.inl ⟨by rfl, ?_⟩) hS ?_
      rotate_left
      · (intro wq hSw; go_simp; try with_reducible rfl)
      simp only [List.getElem_toArray, List.getElem_cons_succ, List.getElem_cons_zero, Act.put, List.setIfInBounds_toArray, List.set_cons_succ, List.set_cons_zero]
      refine wpAnyH_take (i := 11) (v := ?_) rfl (by kernel_rfl) (by kernel_rfl) (by kernel_rfl) (fun _ _ _ h => h) (Or.inl ⟨by rfl, ?_⟩) hS ?_
      rotate_left
      · (intro wq hSw; go_simp; try with_reducible rfl)
      simp only [List.getElem_toArray, List.getElem_cons_succ, List.getElem_cons_zero, Act.put, List.setIfInBounds_toArray, List.set_cons_succ, List.set_cons_zero]
      refine wpAnyH_take (i := 12) (v := ?_) rfl (by kernel_rfl) (by kernel_rfl) (by kernel_rfl) (fun _ _ _ h => h) (Or.inl ⟨by rfl, ?_⟩) hS ?_
      rotate_left
      · (intro wq hSw; have q1 := HC1.out wq hSw; have q2 := HC2.out wq hSw; have q3 := HC3.out wq hSw; have q4 := HC4.out wq hSw; go_simp; try with_reducible rfl)
      simp only [List.getElem_toArray, List.getElem_cons_succ, List.getElem_cons_zero, Act.put, List.setIfInBounds_toArray, List.set_cons_succ, List.set_cons_zero]
      refine wpAnyH_ready (rs := [13]) (by kernel_rfl) (by simp) ?_
      refine AllReadyH.cons rfl (fun K hK => ?_) AllReadyH.nil
      go_simp
      refine HM.out.mono ?_
      rintro e w5 ⟨p', S5, T5, rfl, hpo, hs5, ht5, hes, hk, hs, hxx, hn, hb5⟩
      refine hK.out _ _ ?_ (fun hS => ?_)
      · exact hS.trans (Fr.of_below hb5 No) fun _ hn => hn.elim
      clear hK K
      have HPO := Lib.hid hpo
      have HPE := Lib.hid (And.intro hes (And.intro hk (And.intro hs (And.intro hxx hn))))
      have HB5 := Lib.hid hb5
      have HST := Lib.hid (And.intro hs5 ht5)
      clear hpo hes hk hs hxx hn hb5 hs5 ht5
      refine wpAnyH_take (i := 14) (v := ?_) rfl (by kernel_rfl) (by kernel_rfl) (by kernel_rfl) (fun _ _ _ h => h) (Or.inl ⟨by rfl, ?_⟩) hS ?_
      rotate_left
      · (intro wq hSw; go_simp; try with_reducible rfl)
      simp only [List.getElem_toArray, List.getElem_cons_succ, List.getElem_cons_zero, Act.put, List.setIfInBounds_toArray, List.set_cons_succ, List.set_cons_zero]
      refine wpAnyH_ready (rs := [15]) (by kernel_rfl) (by simp) ?_
      refine AllReadyH.cons rfl (fun K hK => ?_) AllReadyH.nil
      go_simp
      refine hK.out _ _ (hS.alloc _) (fun hS => ?_)
      clear hK K
      have HFW : Hid (Fr wr w5 No) := Lib.hid (((Fr.refl wr No).drew).trans (Fr.of_below HB5.out No) fun _ hn => hn.elim)
      have hown3 : ∀ b, wr.heap.size ≤ b → Beyond w3 (.slice vA q vc) b := fun b hb => ⟨Nat.le_trans HBL.out.size hb, fun he => by have := (HOW4.out.1.lt b he).2; omega⟩
      have HYI : Hid (IV.In w5 (Beyond w3 (.slice vA q vc)) ⟨x.t, p'⟩) := Lib.hid ⟨HX.out.2.t, HPO.out.In.mono (fun b _ hb => hown3 b (HST.out.1 b hb)) (fun b _ hb => hown3 b (HST.out.2 b hb))⟩
      have HO5 := Lib.hid ((HOW4.out.fr HFW.out).alloc (.cells #[.int .u32 (x.t : Int), .int .i64 p'.k, .int .u64 (p'.s : Int), .int .u32 (p'.x : Int), .slice p'.A p'.n p'.c] 53))
      have HBN := Lib.hid (Blk.new w5 53 #[.int .u32 (x.t : Int), .int .i64 p'.k, .int .u64 (p'.s : Int), .int .u32 (p'.x : Int), .slice p'.A p'.n p'.c])
      have HYI5 := Lib.hid (HYI.out.keep ((Fr.refl w5 No).alloc (.cells #[.int .u32 (x.t : Int), .int .i64 p'.k, .int .u64 (p'.s : Int), .int .u32 (p'.x : Int), .slice p'.A p'.n p'.c] 53)) fun _ _ hn => hn)
      clear hown3
      have hbd : (q + 1) * 56 ≤ 140737488355328 := by omega
      refine wpAnyH_ready (rs := [16]) (by kernel_rfl) (by simp) ?_
      refine AllReadyH.cons rfl (fun K hK => ?_) AllReadyH.nil

      refine wp_appIV (.tmp 16) (.tmp 31) rfl _ q xs rfl HO5.out w5.heap.size 1 ⟨x.t, p'⟩ rfl HBN.out HYI5.out hbd (fun v7 w7 ho7 hg7 => ?_)
      have HO7 := Lib.hid ho7
      have hown7 : ∀ k, (Value.slice vA q vc).ownBlock = some k → w3.heap.size ≤ k := fun k hk => HOW4.out.2.2.1 k hk
      have HB7 : Hid (Below w3.heap.size w3 w7) := Lib.hid ((HBL.out.trans ((HFW.out.no_below.mono HBL.out.size).alloc (Nat.le_trans HBL.out.size HFW.out.size) _)).grown hg7 (Nat.le_trans HBL.out.size (Nat.le_trans HFW.out.size (by simp))) fun k hk => hown7 k hk)
      refine hK.out _ _ (hS.grown hg7 fun k hk => Or.inl (hown7 k hk)) (fun hS => ?_)
      clear hK K hown7 ho7 hg7 hbd
      refine wpAnyH_ready (rs := [17]) (by kernel_rfl) (by simp) ?_
      refine AllReadyH.cons rfl (fun K hK => ?_) AllReadyH.nil
      go_simp

      refine hK.out _ _ hS (fun hS => ?_)
      clear hK K
      refine wpAnyH_done (by kernel_rfl) ?_ _
      clear hS
      go_wp2_with fail
      go_roundw
      case rel =>
        refine ⟨q + 1, xs ++ [⟨x.t, p'⟩], by omega, by go_num, ?_, ?_, HB7.out⟩
        · refine HO7.out.mono (fun b _ hb => ?_) (fun b _ hb => ⟨hb.1.1, fun he => HO7.out.2.2.2 b he hb⟩) (fun b hb hn => hn.2 hb)
          rcases hb with hb | hb
          · exact hb
          · exact Nat.le_trans HBL.out.size (Nat.le_trans HFW.out.size (Nat.le_trans (by simp) hb))
        · rw [List.map_append, HXS.out, List.take_succ_eq_append_getElem (by have := HI0.out.1; omega), List.map_append]
          have h7 := HX.out.1
          rw [List.getElem?_eq_getElem (by have := HI0.out.1; omega)] at h7
          injection h7 with h7
          rw [h7]
          unfold IV.e
          simp only [List.map_cons, List.map_nil, HPE.out.1, HPE.out.2.1, HPE.out.2.2.1, HPE.out.2.2.2.1]
      case measure => simp [intOf]; omega
    · have d1 : decide ((q : Int) < (r.im : Int)) = false := decide_eq_false (by omega)
      have d2 : decide (q < r.im) = false := decide_eq_false hlt
      have HQ := Lib.hid (show q = r.im by omega)
      have hz3 : w.heap.size + 2 ≤ w3.heap.size := HZ3.out
      have hz4 : w3.heap.size ≤ wr.heap.size := HBL.out.size
      have hz5 : W1.heap.size = w.heap.size + 1 := HSZ.out.2
      have yf11 := HBB.out.frozen 11
      obtain ⟨F1, hF1⟩ : ∃ F1, wr.setCell ⟨w.heap.size, 11, none⟩ (.slice vA q vc) = F1 := ⟨_, rfl⟩
      have hbF1 : Blk F1 w.heap.size 31 #[.int .i64 r.k, .int .u64 (r.s : Int), .int .u32 (r.t : Int), .int .u64 (r.a : Int), .int .u64 (r.b : Int), .int .u32 (r.pg : Int), .int .u32 (r.rt : Int), .int .i64 r.o.k, .int .i64 r.o.s, .int .u32 (r.o.t : Int), .slice A2 r.o.m c2, .slice vA q vc, .slice r.lA r.lm r.lc, .slice r.dA r.dm r.dc, .int .u32 (r.nx : Int)] := by rw [← hF1]; exact HBB.out.set_ 11 _
      have hrF1 : Blk F1 W1.heap.size 31 #[.int .i64 0, .int .u64 0, .int .u32 0, .int .u64 0, .int .u64 0, .int .u32 0, .int .u32 0, .int .i64 0, .int .i64 0, .int .u32 0, .slice none 0 0, .slice none 0 0, .slice none 0 0, .slice none 0 0, .int .u32 0] := by rw [← hF1]; exact HRR.out.far (by show W1.heap.size ≠ w.heap.size; omega) _
      have hfF1 : Fr wr F1 (fun b => b = w.heap.size) := by rw [← hF1]; exact fr_set (Fr.refl _ _) _ _
      obtain ⟨F2, hF2⟩ : ∃ F2, F1.alloc (.cells #[] 62) = F2 := ⟨_, rfl⟩
      have hs1 : F1.heap.size = wr.heap.size := by rw [← hF1]; simp
      have hs2 : F2.heap.size = wr.heap.size + 1 := by rw [← hF2]; simp [hs1]
      have hbF2 := hbF1.alloc (.cells #[] 62)
      rw [hF2] at hbF2
      have hrF2 := hrF1.alloc (.cells #[] 62)
      rw [hF2] at hrF2
      have hfF2 : Fr wr F2 (fun b => b = w.heap.size) := by rw [← hF2]; exact hfF1.alloc _
      have HOL : Hid (OwLV F2 (fun b => b = F1.heap.size) (fun _ => False) (.slice (some ⟨F1.heap.size, 0, none⟩) 0 0) 0 []) := Lib.hid (by rw [← hF2]; exact OwLV.made F1 _ _ rfl (fun h => h))
      have HBE2 : Hid (Below w.heap.size w F2) := Lib.hid (HBE.out.trans (hfF2.below (fun b hb => by omega) (by omega)))
      have HLV := Lib.hid (HL0.out.keep (Fr.of_below HBE2.out No) fun _ _ hn => hn)
      have y12 := hbF2.cell 12
      simp only [List.getElem?_toArray, List.getElem?_cons_zero, List.getElem?_cons_succ] at y12
      have HBF2 := Lib.hid hbF2
      have HRF2 := Lib.hid hrF2
      have HFF2 := Lib.hid hfF2
      have HS2 := Lib.hid (And.intro hs1 hs2)
      have HZS := Lib.hid (And.intro hz3 (And.intro hz4 hz5))
      have hlm : r.lm ≤ 20001 := HC.out.l
      have hdm : r.dm ≤ 20001 := HC.out.d
      clear hbF1 hrF1 hfF1 hbF2 hrF2 hfF2 hs1 hs2 hz3 hz4 hz5 hlt hq
      go_wp2_with (first
        | (at_builtin; first
        | (refine wpList_appLVm rfl (.tmp 35) (.tmp 37) rfl (.slice (some ⟨F1.heap.size, 0, none⟩) 0 0) 0 [] rfl HOL.out r.lA r.lm r.lc r.ll rfl HLV.out (by omega) ?_
           intro v5 w5 ho5 hg5
           have ho5 : OwLV w5 (fun b => b = F1.heap.size ∨ F2.heap.size ≤ b) (fun _ => False) v5 r.lm r.ll := by
             have := ho5.mono (T' := fun _ => False) (fun b _ hb => hb) (fun b _ hb => hb.1) (fun _ _ h => h)
             simpa using this
           obtain ⟨A5, c5, rfl, _, _, _, _⟩ := ho5.reads (by omega)
           have hf5 : Fr F2 w5 (fun b => b = F1.heap.size) := (Fr.refl F2 _).grown hg5 (fun k hk => Or.inl (by simpa [Value.ownBlock] using hk.symm))
           have hne : w.heap.size ≠ F1.heap.size ∧ W1.heap.size ≠ F1.heap.size := by have := HS2.out; have := HZS.out; omega
           have hb5 := HBF2.out.keep hf5 hne.1
           have hr5 := HRF2.out.keep hf5 hne.2
           have yc := hb5.cell 12
           have yf := hb5.frozen 12
           simp only [List.getElem?_toArray, List.getElem?_cons_zero, List.getElem?_cons_succ] at yc
           obtain ⟨F3, hF3⟩ : ∃ F3, w5.setCell ⟨w.heap.size, 12, none⟩ (.slice A5 r.lm c5) = F3 := ⟨_, rfl⟩
           have hbF3 : Blk F3 w.heap.size 31 #[.int .i64 r.k, .int .u64 (r.s : Int), .int .u32 (r.t : Int), .int .u64 (r.a : Int), .int .u64 (r.b : Int), .int .u32 (r.pg : Int), .int .u32 (r.rt : Int), .int .i64 r.o.k, .int .i64 r.o.s, .int .u32 (r.o.t : Int), .slice A2 r.o.m c2, .slice vA q vc, .slice A5 r.lm c5, .slice r.dA r.dm r.dc, .int .u32 (r.nx : Int)] := by rw [← hF3]; exact hb5.set_ 12 _
           have hrF3 : Blk F3 W1.heap.size 31 #[.int .i64 0, .int .u64 0, .int .u32 0, .int .u64 0, .int .u64 0, .int .u32 0, .int .u32 0, .int .i64 0, .int .i64 0, .int .u32 0, .slice none 0 0, .slice none 0 0, .slice none 0 0, .slice none 0 0, .int .u32 0] := by rw [← hF3]; exact hr5.far (by have := HZS.out; show W1.heap.size ≠ w.heap.size; omega) _
           have hfF3 : Fr w5 F3 (fun b => b = w.heap.size) := by rw [← hF3]; exact fr_set (Fr.refl _ _) _ _
           obtain ⟨F4, hF4⟩ : ∃ F4, F3.alloc (.cells #[] 64) = F4 := ⟨_, rfl⟩
           have hs3 : F3.heap.size = w5.heap.size := by rw [← hF3]; simp
           have hs4 : F4.heap.size = w5.heap.size + 1 := by rw [← hF4]; simp [hs3]
           have hbF4 := hbF3.alloc (.cells #[] 64)
           rw [hF4] at hbF4
           have hrF4 := hrF3.alloc (.cells #[] 64)
           rw [hF4] at hrF4
           have hfF4 : Fr w5 F4 (fun b => b = w.heap.size) := by rw [← hF4]; exact hfF3.alloc _
           have HOD : Hid (OwDV F4 (fun b => b = F3.heap.size) (fun _ => False) (.slice (some ⟨F3.heap.size, 0, none⟩) 0 0) 0 []) := Lib.hid (by rw [← hF4]; exact OwDV.made F3 _ _ rfl (fun h => h))
           have HF24 : Hid (Fr wr F4 (fun b => b = w.heap.size)) := Lib.hid ((HFF2.out.trans hf5 (fun b hb => Or.inr (by have := HS2.out; omega))).trans hfF4 (fun b hb => Or.inl hb))
           have HBE4 : Hid (Below w.heap.size w F4) := Lib.hid (HBE.out.trans (HF24.out.below (fun b hb => by omega) (by have := HZS.out; omega)))
           have HDV := Lib.hid (HD0.out.keep (Fr.of_below HBE4.out No) fun _ _ hn => hn)
           have HOL5 := Lib.hid ((ho5.mono (S' := fun b => (b = F1.heap.size ∨ F2.heap.size ≤ b) ∧ b < w5.heap.size) (T' := fun _ => False) (fun b hlt hb => ⟨hb, hlt⟩) (fun b _ hb => hb) (fun _ _ h => h)).keep hfF4 (fun b hb he => by have := HS2.out; have := HZS.out; omega) (fun _ hb => hb.elim))
           have y13 := hbF4.cell 13
           simp only [List.getElem?_toArray, List.getElem?_cons_zero, List.getElem?_cons_succ] at y13
           have HBF4 := Lib.hid hbF4
           have HRF4 := Lib.hid hrF4
           have HS4 : Hid (F3.heap.size = w5.heap.size ∧ F4.heap.size = w5.heap.size + 1 ∧ F2.heap.size ≤ w5.heap.size) := Lib.hid ⟨hs3, hs4, hf5.size⟩
           clear ho5 hg5 hf5 hne hb5 hr5 hbF3 hrF3 hfF3 hs3 hs4 hbF4 hrF4 hfF4 y12)
        | (refine wpList_appDVm rfl (.tmp 40) (.tmp 42) rfl (.slice (some ⟨F3.heap.size, 0, none⟩) 0 0) 0 [] rfl HOD.out r.dA r.dm r.dc r.dl rfl HDV.out (by omega) ?_
           intro v6 w6 ho6 hg6
           have ho6 : OwDV w6 (fun b => b = F3.heap.size ∨ F4.heap.size ≤ b) (fun _ => False) v6 r.dm r.dl := by
             have := ho6.mono (T' := fun _ => False) (fun b _ hb => hb) (fun b _ hb => hb.1) (fun _ _ h => h)
             simpa using this
           obtain ⟨A6, c6, rfl, _, _, _, _⟩ := ho6.reads (by omega)
           have hf6 : Fr F4 w6 (fun b => b = F3.heap.size) := (Fr.refl F4 _).grown hg6 (fun k hk => Or.inl (by simpa [Value.ownBlock] using hk.symm))
           have hne : w.heap.size ≠ F3.heap.size ∧ W1.heap.size ≠ F3.heap.size := by have := HS2.out; have := HZS.out; have := HS4.out; omega
           have hb6 := HBF4.out.keep hf6 hne.1
           have hr6 := HRF4.out.keep hf6 hne.2
           have yc := hb6.cell 13
           have yf := hb6.frozen 13
           simp only [List.getElem?_toArray, List.getElem?_cons_zero, List.getElem?_cons_succ] at yc
           obtain ⟨F5, hF5⟩ : ∃ F5, w6.setCell ⟨w.heap.size, 13, none⟩ (.slice A6 r.dm c6) = F5 := ⟨_, rfl⟩
           have HBF5 : Hid (Blk F5 w.heap.size 31 #[.int .i64 r.k, .int .u64 (r.s : Int), .int .u32 (r.t : Int), .int .u64 (r.a : Int), .int .u64 (r.b : Int), .int .u32 (r.pg : Int), .int .u32 (r.rt : Int), .int .i64 r.o.k, .int .i64 r.o.s, .int .u32 (r.o.t : Int), .slice A2 r.o.m c2, .slice vA q vc, .slice A5 r.lm c5, .slice A6 r.dm c6, .int .u32 (r.nx : Int)]) := Lib.hid (by rw [← hF5]; exact hb6.set_ 13 _)
           have HRF5 : Hid (Blk F5 W1.heap.size 31 #[.int .i64 0, .int .u64 0, .int .u32 0, .int .u64 0, .int .u64 0, .int .u32 0, .int .u32 0, .int .i64 0, .int .i64 0, .int .u32 0, .slice none 0 0, .slice none 0 0, .slice none 0 0, .slice none 0 0, .int .u32 0]) := Lib.hid (by rw [← hF5]; exact hr6.far (by have := HZS.out; show W1.heap.size ≠ w.heap.size; omega) _)
           have hfF5 : Fr w6 F5 (fun b => b = w.heap.size) := by rw [← hF5]; exact fr_set (Fr.refl _ _) _ _
           have HF45 : Hid (Fr F4 F5 (fun b => b = F3.heap.size ∨ b = w.heap.size)) := Lib.hid ((hf6.mono fun b _ hb => Or.inl hb).trans hfF5 (fun b hb => Or.inl (Or.inr hb)))
           have HF25 : Hid (Fr wr F5 (fun b => b = w.heap.size)) := Lib.hid ((HF24.out.trans hf6 (fun b hb => Or.inr (by have := HS2.out; have := HS4.out; omega))).trans hfF5 (fun b hb => Or.inl hb))
           have HOD6 := Lib.hid (ho6.keep hfF5 (fun b hb he => by have := HS2.out; have := HZS.out; have := HS4.out; omega) (fun _ hb => hb.elim))
           clear ho6 hg6 hf6 hne hb6 hr6 hfF5 y13))
        | (refine wpList_ldB rfl 31 (.tmp 1) rfl w.heap.size rfl 31 #[.int .i64 r.k, .int .u64 (r.s : Int), .int .u32 (r.t : Int), .int .u64 (r.a : Int), .int .u64 (r.b : Int), .int .u32 (r.pg : Int), .int .u32 (r.rt : Int), .int .i64 r.o.k, .int .i64 r.o.s, .int .u32 (r.o.t : Int), .slice A2 r.o.m c2, .slice vA q vc, .slice A5 r.lm c5, .slice A6 r.dm c6, .int .u32 (r.nx : Int)] _ HBF5.out Tryz.underlying31 rfl size31 ?_)
        | (refine wpList_stB rfl 31 (.tmp 2) (.tmp 45) rfl W1.heap.size #[.int .i64 r.k, .int .u64 (r.s : Int), .int .u32 (r.t : Int), .int .u64 (r.a : Int), .int .u64 (r.b : Int), .int .u32 (r.pg : Int), .int .u32 (r.rt : Int), .int .i64 r.o.k, .int .i64 r.o.s, .int .u32 (r.o.t : Int), .slice A2 r.o.m c2, .slice vA q vc, .slice A5 r.lm c5, .slice A6 r.dm c6, .int .u32 (r.nx : Int)] rfl rfl 31 #[.int .i64 0, .int .u64 0, .int .u32 0, .int .u64 0, .int .u64 0, .int .u32 0, .int .u32 0, .int .i64 0, .int .i64 0, .int .u32 0, .slice none 0 0, .slice none 0 0, .slice none 0 0, .slice none 0 0, .int .u32 0] HRF5.out size31 rfl rfl ?_
           intro G hbG hfG
           have HBG := Lib.hid hbG
           have HFG := Lib.hid hfG
           clear hbG hfG))
      refine bodyPost_ret (results_cell_row Tryz.results10 _ _ W1.heap.size 31 _ (0, 0) _ rfl HBG.out Tryz.underlying31 rfl size31) rfl ?_
      have hz3 := HZS.out
      have hs2 := HS2.out
      have hs4 := HS4.out
      have hfr : Fr wr G (fun b => b = w.heap.size ∨ b = W1.heap.size) := (HF25.out.mono fun b _ hb => Or.inl hb).trans HFG.out fun b hb => Or.inl (Or.inr hb)
      have hf3 : Fr w3 G (fun b => b = w.heap.size ∨ b = W1.heap.size) := (Fr.of_below HBL.out _).trans hfr fun b hb => Or.inl hb
      have hbe : Below w.heap.size w G := HBE.out.trans (hfr.below (fun b hb => by omega) (by omega))
      have ho : Ow G (fun b => W.heap.size ≤ b) (.slice A2 r.o.m c2) r.o.m r.o.d := HOW3.out.keep hf3 (fun b hb he => by have := HSZ.out; omega)
      have hi := (HOW4.out.keep hfr (fun b hb he => by have h9 : w3.heap.size ≤ b := hb; have h8 : b = w.heap.size ∨ b = W1.heap.size := he; omega) (fun b hb he => by have h9 : w3.heap.size ≤ b := hb.1; have h8 : b = w.heap.size ∨ b = W1.heap.size := he; omega)).reads (by have := HQ.out; omega)
      have hfx : Fr F4 G (fun b => b = F3.heap.size ∨ b = w.heap.size ∨ b = W1.heap.size) := (HF45.out.mono fun b _ hb => (Or.elim hb (fun h => Or.inl h) (fun h => Or.inr (Or.inl h)))).trans HFG.out fun b hb => Or.inl (Or.inr (Or.inr hb))
      have hl := (HOL5.out.keep hfx (fun b hb he => by have h9 : (b = F1.heap.size ∨ F2.heap.size ≤ b) ∧ b < w5.heap.size := hb; have h8 : b = F3.heap.size ∨ b = w.heap.size ∨ b = W1.heap.size := he; omega) (fun _ hb => hb.elim)).reads (by omega)
      have hd := (HOD6.out.keep HFG.out (fun b hb he => by have h9 : b = F3.heap.size ∨ F4.heap.size ≤ b := hb; omega) (fun _ hb => hb.elim)).reads (by omega)
      obtain ⟨_, _, ei, _, _, _, hir⟩ := hi
      obtain ⟨_, _, el, _, _, _, hlr⟩ := hl
      obtain ⟨_, _, ed, _, _, _, hdr⟩ := hd
      obtain ⟨_, _, eo, _, _, hor⟩ := ho.reads
      injection ei with ei _ _
      injection el with el _ _
      injection ed with ed _ _
      injection eo with eo _ _
      rw [← ei] at hir
      rw [← el] at hlr
      rw [← ed] at hdr
      rw [← eo] at hor
      have h := HIN.out
      refine ⟨⟨r.k, r.s, r.t, r.a, r.b, r.pg, r.rt, ⟨r.o.k, r.o.s, r.o.t, A2, r.o.m, c2, r.o.d⟩, vA, q, vc, xs, A5, r.lm, c5, r.ll, A6, r.dm, c6, r.dl, r.nx⟩, rfl, ?_, ?_, hbe⟩
      · unfold RV.e OV.n
        simp only [HXS.out]
        rw [List.take_of_length_le (by have := HI0.out.1; have := HQ.out; omega)]
      · exact ⟨h.k1, h.k2, h.s, h.t, h.a, h.b, h.pg, h.rt, ⟨hor.mono fun _ _ _ => trivial, h.o.k1, h.o.k2, h.o.s1, h.o.s2, h.o.t, HMC.out.1, h.o.ml, HMC.out.2⟩, hir.mono fun _ _ _ => trivial, hlr.mono fun _ _ _ => trivial, hdr.mono fun _ _ _ => trivial, h.nx⟩
end Go.Proofs.YtdhgbkibbileiaaGreat
