/-
ROWS OF CELLS OF ONE'S OWN; THE WALKS OF long, Copy, Clone.
-/
import Derived.Test.YtcajidlekfkjlaaPC
namespace Go.Proofs.Ytcajidlekfkjlaa
open Go.RowKit

/-- v is a slice of n cells, the row of l; its block, if it has one, is one of S; what the cells have lies in T, and not in that block. -/
def OwC (w : World) (S T : Nat → Prop) (v : Value) (n : Nat) (l : List CV) : Prop :=
  w.ownsRow 0 48 3 v n (ccs l) ∧ (∀ x ∈ l, x.In w T) ∧ (∀ k, v.ownBlock = some k → S k) ∧ ∀ k, v.ownBlock = some k → ¬ T k
section
variable {w w' : World} {v : Value} {n : Nat} {l : List CV} {S T S' T' U : Nat → Prop}
set_option maxRecDepth 100000 in
theorem OwC.len (h : OwC w S T v n l) : l.length = n := by
  have := h.1.1
  rw [ccs_len] at this
  omega
set_option maxRecDepth 100000 in
theorem OwC.nil_ (w : World) (S T : Nat → Prop) : OwC w S T (.slice none 0 0) 0 [] := ⟨World.ownsRow_nil w 0 48 3, by simp, fun k hk => by simp [Value.ownBlock] at hk, fun k hk => by simp [Value.ownBlock] at hk⟩
set_option maxRecDepth 100000 in
theorem OwC.made (w : World) (S T : Nat → Prop) (hS : S w.heap.size) (hT : ¬ T w.heap.size) : OwC (w.alloc (.cells #[] 48)) S T (.slice (some ⟨w.heap.size, 0, none⟩) 0 0) 0 [] :=
  ⟨World.ownsRow_made (e := 48) (size := 3) w #[] 0 (Nat.zero_le _) (by simp [maxLen]) (by simp), by simp, (fun k hk => by simp [Value.ownBlock] at hk; subst hk; exact hS), fun k hk => by simp [Value.ownBlock] at hk; subst hk; exact hT⟩
set_option maxRecDepth 100000 in
theorem OwC.mono (h : OwC w S T v n l) (hS : ∀ b, b < w.heap.size → S b → S' b) (hT : ∀ b, b < w.heap.size → T b → T' b) (hn : ∀ k, v.ownBlock = some k → ¬ T' k) : OwC w S' T' v n l :=
  ⟨h.1, fun x hx => (h.2.1 x hx).mono hT, fun k hk => hS k (h.1.lt k hk).2 (h.2.2.1 k hk), hn⟩
set_option maxRecDepth 100000 in
theorem OwC.monoS (h : OwC w S T v n l) (hS : ∀ b, b < w.heap.size → S b → S' b) : OwC w S' T v n l :=
  ⟨h.1, h.2.1, fun k hk => hS k (h.1.lt k hk).2 (h.2.2.1 k hk), h.2.2.2⟩
set_option maxRecDepth 100000 in
theorem OwC.keep (h : OwC w S T v n l) (hf : Fr w w' U) (hS : ∀ b, S b → ¬ U b) (hT : ∀ b, T b → ¬ U b) : OwC w' S T v n l := by
  obtain ⟨⟨h1, h2⟩, h3, h4, h5⟩ := h
  refine ⟨⟨h1, ?_⟩, fun x hx => (h3 x hx).keep hf hT, h4, h5⟩
  rcases h2 with h2 | ⟨g, cap, cur, hv, hg, hh, r⟩
  · exact Or.inl h2
  · exact Or.inr ⟨g, cap, cur, hv, hg, (hf.block g (Blk.lt hh) (hS g (h4 g (by rw [hv]; rfl)))).trans hh, r⟩
set_option maxRecDepth 100000 in
theorem OwC.fr (h : OwC w S T v n l) (hf : Fr w w' No) : OwC w' S T v n l := h.keep hf (fun _ _ hn => hn) fun _ _ hn => hn
set_option maxRecDepth 100000 in
theorem OwC.below (h : OwC w S T v n l) (hb : Below w.heap.size w w') : OwC w' S T v n l := h.fr (Fr.of_below hb No)
set_option maxRecDepth 100000 in
theorem OwC.alloc (h : OwC w S T v n l) (o : Obj) : OwC (w.alloc o) S T v n l := h.below ((Below.refl _ _).alloc (Nat.le_refl _) o)
set_option maxRecDepth 100000 in
theorem OwC.drew (h : OwC w S T v n l) : OwC w.drew S T v n l := h.fr (Fr.refl w No).drew
set_option maxRecDepth 100000 in
theorem OwC.reads (h : OwC w S T v n l) (hn : n ≤ 140737488351232) : ∃ A c, v = .slice A n c ∧ n ≤ c ∧ c ≤ maxLen ∧ (A = none → c = 0) ∧ CR w S T A n l := by
  have hlen := h.len
  obtain ⟨⟨h1, h2⟩, hl, hS, _⟩ := h
  rcases h2 with ⟨rfl, h0⟩ | ⟨g, cap, cur, rfl, _, hg, hc, hm, hcur, htake⟩
  · subst h0
    exact ⟨none, 0, rfl, Nat.le_refl _, Nat.zero_le _, fun _ => rfl, hlen, hl, by omega, fun h => absurd h (by omega)⟩
  · refine ⟨_, _, rfl, hc, hm, (fun e => by cases e), hlen, hl, by omega, fun _ => ⟨g, 0, rfl, Blk.lt hg, hS g rfl, fun i x hi => ?_⟩⟩
    obtain ⟨a, b, c⟩ := ccs_at l i x hi
    have hil : i < l.length := by
      rcases Nat.lt_or_ge i l.length with h | h
      · exact h
      · rw [List.getElem?_eq_none h] at hi; cases hi
    have key : ∀ j u, j < n * 3 → (ccs l)[j]? = some u → w.cell? ⟨g, j, none⟩ = some u := by
      intro j u hj hu
      rw [Blk.cell hg j]
      rw [← htake, List.getElem?_take_of_lt hj] at hu
      simpa using hu
    rw [Nat.zero_add]
    exact ⟨key _ _ (by omega) a, key _ _ (by omega) b, key _ _ (by omega) c⟩
end
set_option maxRecDepth 100000 in
theorem info48 : (Try.prog.info? 48).map (fun i => (i.zero, i.size, i.bytes)) = some (some (.agg #[.bool false, .int .u32 0, .slice none 0 0]), 3, 32) := by kernel_rfl
set_option maxRecDepth 100000 in
theorem CR.cells {w : World} {S T : Nat → Prop} {g o m : Nat} {ks : List CV} (hr : CR w S T (some ⟨g, o, none⟩) m ks) : ∀ j u, (ccs ks)[j]? = some u → w.cell? ((⟨g, o, none⟩ : Addr).add j) = some u := by
  intro j u hu
  obtain ⟨i, x, hi, hx⟩ := ccs_of ks j u hu
  have hil : i < ks.length := by
    rcases Nat.lt_or_ge i ks.length with h | h
    · exact h
    · rw [List.getElem?_eq_none h] at hi; cases hi
  obtain ⟨h1, _, _, h3⟩ := hr
  obtain ⟨g', o', e, _, _, hc⟩ := h3 (by omega)
  injection e with e
  injection e with e1 e2
  subst e1 e2
  have hadd : (⟨g, o, none⟩ : Addr).add j = ⟨g, o + j, none⟩ := by unfold Addr.add; split <;> simp_all
  obtain ⟨c0, c1, c2⟩ := hc i x hi
  rw [hadd]
  rcases hx with ⟨rfl, rfl⟩ | ⟨rfl, rfl⟩ | ⟨rfl, rfl⟩
  · exact c0
  · exact c1
  · exact c2
section
variable {w : World} {S T S' : Nat → Prop}
set_option maxRecDepth 100000 in
theorem run_appC (ty : TypeId) (v : Value) (n : Nat) (l : List CV) (h : OwC w S T v n l) (A : Option Addr) (m c : Nat) (ks : List CV) (hr : CR w S' T A m ks) (hb : (n + m) * 32 ≤ 140737488355328) :
    ∃ v' w', (Builtin.append_ #[42, 42] ty #[v, .slice A m c]).run Try.prog w = .ok v' w' ∧ OwC w' (fun b => S b ∨ w.heap.size ≤ b) (fun b => T b ∧ b < w.heap.size) v' (n + m) (l ++ ks) ∧ w.grownBy w' v.ownBlock := by
  obtain ⟨i0, hi, hz0, hz1, hz2⟩ := info_parts info48
  have hin : ∀ w', w.grownBy w' v.ownBlock → ∀ x ∈ l ++ ks, x.In w' (fun b => T b ∧ b < w.heap.size) := by
    intro w' hg x hx
    have hxi : x.In w T := by
      rcases List.mem_append.1 hx with hx | hx
      · exact h.2.1 x hx
      · exact hr.2.1 x hx
    have hf : Fr w w' (fun b => v.ownBlock = some b) := (Fr.refl w _).grown hg fun k hk => Or.inl hk
    exact (hxi.mono (T' := fun b => T b ∧ b < w.heap.size) fun b hlt hb => ⟨hb, hlt⟩).keep hf fun b hb hk => h.2.2.2 b hk hb.1
  rcases A with _ | ad
  · have hm : m = 0 := by
      rcases Nat.eq_zero_or_pos m with h0 | h0
      · exact h0
      · obtain ⟨_, _, e, _⟩ := hr.2.2.2 h0
        cases e
    subst hm
    have hk : ks = [] := List.eq_nil_of_length_eq_zero hr.1
    subst hk
    refine ⟨v, w, ?_, ?_, World.grownBy.refl w _⟩
    · rcases h.1.2 with ⟨rfl, rfl⟩ | ⟨g, cap, cur, rfl, _, _, hnc, _⟩
      · simp [Builtin.append_, run_underlying Try.underlying42, sizeOf, typeInfo, hi, Builtin.lenOf, Builtin.firstCells]
      · simp [Builtin.append_, run_underlying Try.underlying42, sizeOf, typeInfo, hi, Builtin.lenOf, Builtin.firstCells, hnc, storeCells]
    · simpa using h.mono (S' := fun b => S b ∨ w.heap.size ≤ b) (T' := fun b => T b ∧ b < w.heap.size) (fun b _ hS => Or.inl hS) (fun b hlt hT => ⟨hT, hlt⟩) fun k hk hT => h.2.2.2 k hk hT.1
  · have hcells : ∀ j u, (ccs ks)[j]? = some u → w.cell? (ad.add j) = some u := by
      rcases Nat.eq_zero_or_pos m with hm | hm
      · have hk : ks = [] := List.eq_nil_of_length_eq_zero (by rw [hr.1]; exact hm)
        subst hk
        intro j u hj
        simp [ccs] at hj
      · obtain ⟨g, o, e, _, _⟩ := hr.2.2.2 hm
        injection e with e
        subst e
        exact hr.cells
    obtain ⟨v', w', h1, h2, h3, _, h5⟩ := run_append_own_at (P := Try.prog) w 0 42 ty 48 i0 (.agg #[.bool false, .int .u32 0, .slice none 0 0]) 3 32 Try.underlying42 hi hz0 hz1 hz2 (by decide) (by decide) v n (ccs l) h.1 ad m c (ccs ks)
      (by rw [ccs_len, hr.1]) hcells (ccs_one ks) (by simp only [maxLen]; omega) hb (Nat.zero_le _)
    rw [← ccs_append] at h2
    refine ⟨v', w', h1, ⟨h2, hin w' h3, fun q hq => ?_, fun q hq hT => ?_⟩, h3⟩
    · rcases h5 with h5 | h5
      · exact Or.inl (h.2.2.1 q (by rw [← h5]; exact hq))
      · rw [h5] at hq
        injection hq with hq
        exact Or.inr (by omega)
    · rcases h5 with h5 | h5
      · exact h.2.2.2 q (by rw [← h5]; exact hq) hT.1
      · rw [h5] at hq
        injection hq with hq
        have := hT.2
        omega
variable {ops : Array Oper} {rest : List Oper} {o : Oper} {a : Act} {Q : Exit → Act → World → Prop}
set_option maxRecDepth 100000 in
theorem wpList_appC (hgd : o.guard = none) (s x : Operand) (ho : o.op = .call { callee := .builtin .append, args := #[s, x], argTypes := #[42, 42] })
    (v : Value) (n : Nat) (l : List CV) (hs : a.eval s = v) (h : OwC w S T v n l) (A : Option Addr) (m c : Nat) (ks : List CV) (hx : a.eval x = .slice A m c) (hr : CR w S' T A m ks) (hb : (n + m) * 32 ≤ 140737488355328)
    (hK : ∀ v' w', OwC w' (fun b => S b ∨ w.heap.size ≤ b) (fun b => T b ∧ b < w.heap.size) v' (n + m) (l ++ ks) → w.grownBy w' v.ownBlock → wpList Try.prog ops Q rest (a.put o.dst v') w') : wpList Try.prog ops Q (o :: rest) a w := by
  refine wpList_plain hgd fun K hk => ?_
  obtain ⟨v', w', hrun, h2, h3⟩ := run_appC o.type v n l h A m c ks hr hb
  unfold Oper.wp execOp
  simp only [ho, resolve, invoke, builtin, Sem.run_bind, Sem.run_pure, Result.andThen_ok, List.map_toArray, List.map_cons, List.map_nil, hs, hx, hrun]
  exact hk _ _ (hK v' w' h2 h3)
end
set_option maxRecDepth 100000 in
/-- one cell, in a block of its own -/
theorem CR.one (w : World) (S T : Nat → Prop) (x : CV) (b : Nat) (hb : b = w.heap.size) (hS : S b) (hx : x.In w T) : CR (w.alloc (.cells #[.bool x.u, .int .u32 (x.k : Int), .slice x.A x.m x.c] 48)) S T (some ⟨b, 0, none⟩) 1 [x] := by
  subst hb
  refine ⟨rfl, fun y hy => ?_, by omega, fun _ => ⟨_, 0, rfl, by simp, hS, fun i y hi => ?_⟩⟩
  · rw [List.mem_singleton] at hy; subst hy
    exact hx.below ((Below.refl _ _).alloc (Nat.le_refl _) _)
  · cases i with
    | succ i => simp at hi
    | zero =>
      simp at hi
      subst hi
      have hbk := Blk.new w 48 #[.bool x.u, .int .u32 (x.k : Int), .slice x.A x.m x.c]
      have c0 := hbk.cell 0
      have c1 := hbk.cell 1
      have c2 := hbk.cell 2
      simp only [List.getElem?_toArray, List.getElem?_cons_zero, List.getElem?_cons_succ] at c0 c1 c2
      exact ⟨c0, c1, c2⟩
end Go.Proofs.Ytcajidlekfkjlaa
