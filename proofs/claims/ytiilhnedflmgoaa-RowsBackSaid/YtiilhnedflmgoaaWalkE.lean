/-
  ROWS OF COLUMNS IN MEMORY; THE WALK OF lentCols. (Out of the text on rows of values, by program.)
-/
import Derived.Test.YtiilhnedflmgoaaWalkB
import Derived.Test.YtiilhnedflmgoaaRMath
namespace Go.Proofs.Ytiilhnedflmgoaa
open Go.RowKit Go.Sort

/-- two columns are one -/
def ceq (a b : C) : Bool := seq a.nm b.nm && a.k == b.k && a.nd == b.nd
set_option maxRecDepth 100000 in
theorem ceq_eq {a b : C} : ceq a b = true ↔ a = b := by
  obtain ⟨a1, a2, a3⟩ := a
  obtain ⟨b1, b2, b3⟩ := b
  simp [ceq, seq_eq, and_assoc]
set_option maxRecDepth 100000 in
theorem run_neqc (nm : ByteArray) (k : Int) (nd : Bool) (nm' : ByteArray) (k' : Int) (nd' : Bool) (w : World) :
    (binOp .neq 45 (.agg #[.string nm, .int .i64 k, .bool nd]) (.agg #[.string nm', .int .i64 k', .bool nd'])).run Try.prog w = .ok (.bool (!ceq ⟨nm, k, nd⟩ ⟨nm', k', nd'⟩)) w := by
  go_simp
  unfold ceq seq
  by_cases h1 : nm.toList = nm'.toList <;> by_cases h2 : k = k' <;> by_cases h3 : nd = nd' <;> simp [h1, h2, h3]
/-- the three cells of a column -/
def BoxC (w : World) (g o : Nat) (nm : ByteArray) (k : Int) (nd : Bool) : Prop :=
  w.cell? ⟨g, o, none⟩ = some (.string nm) ∧ w.cell? ⟨g, o + 1, none⟩ = some (.int .i64 k) ∧ w.cell? ⟨g, o + 2, none⟩ = some (.bool nd)
section
variable {w w' : World} {g o : Nat} {nm : ByteArray} {k : Int} {nd : Bool}
set_option maxRecDepth 100000 in
theorem BoxC.lt (h : BoxC w g o nm k nd) : g < w.heap.size := block_lt_of_cell h.1
set_option maxRecDepth 100000 in
theorem BoxC.below {B : Nat} (h : BoxC w g o nm k nd) (hb : Below B w w') (hg : g < B) : BoxC w' g o nm k nd :=
  ⟨(hb.cell (p := ⟨g, _, none⟩) hg).trans h.1, (hb.cell (p := ⟨g, _, none⟩) hg).trans h.2.1, (hb.cell (p := ⟨g, _, none⟩) hg).trans h.2.2⟩
set_option maxRecDepth 100000 in
theorem BoxC.up (h : BoxC w g o nm k nd) (hb : Below w.heap.size w w') : BoxC w' g o nm k nd := h.below hb h.lt
set_option maxRecDepth 100000 in
theorem BoxC.new (w : World) (nm : ByteArray) (k : Int) (nd : Bool) : BoxC (w.alloc (.cells #[.string nm, .int .i64 k, .bool nd] 45)) w.heap.size 0 nm k nd := by
  refine ⟨?_, ?_, ?_⟩ <;> go_simp
set_option maxRecDepth 100000 in
theorem BoxC.grown (h : BoxC w g o nm k nd) : (∀ d os, (grow (redrawn w d) os).cell? ⟨g, o, none⟩ = some (.string nm)) ∧ (∀ d os, (grow (redrawn w d) os).cell? ⟨g, o + 1, none⟩ = some (.int .i64 k)) ∧ (∀ d os, (grow (redrawn w d) os).cell? ⟨g, o + 2, none⟩ = some (.bool nd)) :=
  ⟨fun d os => cell_regrown h.1 d os, fun d os => cell_regrown h.2.1 d os, fun d os => cell_regrown h.2.2 d os⟩
end
/-- a value that comes in -/
structure COk (x : C) : Prop where
  s : x.nm.size ≤ 9223372036854775807
/-- The slice value '.slice A n c' reads as the row vs. -/
def RC (w : World) (A : Option Addr) (n : Nat) (vs : List C) : Prop :=
  vs.length = n ∧ (∀ v ∈ vs, COk v) ∧ n ≤ 9223372036854775806 ∧ (0 < n → ∃ g o, A = some ⟨g, o, none⟩ ∧ g < w.heap.size ∧ ∀ i v, vs[i]? = some v → BoxC w g (o + i * 3) v.nm v.k v.nd)
set_option maxRecDepth 100000 in
theorem RC.below {w w' : World} {A : Option Addr} {n : Nat} {vs : List C} (h : RC w A n vs) (hb : Below w.heap.size w w') : RC w' A n vs := by
  obtain ⟨h1, h2, h2', h3⟩ := h
  refine ⟨h1, h2, h2', fun hn => ?_⟩
  obtain ⟨g, o, e, hg, hc⟩ := h3 hn
  exact ⟨g, o, e, Nat.lt_of_lt_of_le hg hb.size, fun i v hi => (hc i v hi).below hb hg⟩
set_option maxRecDepth 100000 in
theorem RC.at_ {w : World} {A : Option Addr} {n : Nat} {vs : List C} (h : RC w A n vs) {k : Nat} (hk : k < n) : ∃ g o v, A = some ⟨g, o, none⟩ ∧ g < w.heap.size ∧ vs[k]? = some v ∧ COk v ∧ BoxC w g (o + k * 3) v.nm v.k v.nd := by
  obtain ⟨h1, h2, _, h3⟩ := h
  obtain ⟨g, o, e, hg, hc⟩ := h3 (by omega)
  have hv : vs[k]? = some vs[k] := List.getElem?_eq_getElem (by omega)
  exact ⟨g, o, _, e, hg, hv, h2 _ (List.getElem_mem _), hc k _ hv⟩
/-- values as cells -/
def ccs : List C → List Value
  | [] => []
  | v :: r => .string v.nm :: .int .i64 v.k :: .bool v.nd :: ccs r
set_option maxRecDepth 100000 in
theorem ccs_len (vs : List C) : (ccs vs).length = vs.length * 3 := by
  induction vs with
  | nil => rfl
  | cons v r ih => simp [ccs, ih]; omega
set_option maxRecDepth 100000 in
theorem ccs_append (a b : List C) : ccs (a ++ b) = ccs a ++ ccs b := by
  induction a with
  | nil => rfl
  | cons v r ih => simp [ccs, ih]
set_option maxRecDepth 100000 in
theorem ccs_one (vs : List C) : ∀ u ∈ ccs vs, u.oneCell' = true := by
  induction vs with
  | nil => intro u hu; simp [ccs] at hu
  | cons v r ih =>
    intro u hu
    simp only [ccs, List.mem_cons] at hu
    rcases hu with rfl | rfl | rfl | hu
    · rfl
    · rfl
    · rfl
    · exact ih u hu
set_option maxRecDepth 100000 in
theorem ccs_at (vs : List C) (i : Nat) (v : C) (h : vs[i]? = some v) : (ccs vs)[i * 3]? = some (.string v.nm) ∧ (ccs vs)[i * 3 + 1]? = some (.int .i64 v.k) ∧ (ccs vs)[i * 3 + 2]? = some (.bool v.nd) := by
  induction vs generalizing i with
  | nil => simp at h
  | cons u r ih =>
    cases i with
    | zero => simp at h; subst h; simp [ccs]
    | succ i =>
      simp at h
      have := ih i h
      simp only [ccs, show (i + 1) * 3 = i * 3 + 1 + 1 + 1 by omega, show i * 3 + 1 + 1 + 1 + 1 = (i * 3 + 1) + 1 + 1 + 1 by omega, show i * 3 + 1 + 1 + 1 + 2 = (i * 3 + 2) + 1 + 1 + 1 by omega, List.getElem?_cons_succ]
      exact this
set_option maxRecDepth 100000 in
theorem ccs_of (vs : List C) (j : Nat) (u : Value) (h : (ccs vs)[j]? = some u) : ∃ i v, vs[i]? = some v ∧ ((j = i * 3 ∧ u = .string v.nm) ∨ (j = i * 3 + 1 ∧ u = .int .i64 v.k) ∨ (j = i * 3 + 2 ∧ u = .bool v.nd)) := by
  have hl : j < (ccs vs).length := by
    rcases Nat.lt_or_ge j (ccs vs).length with h1 | h1
    · exact h1
    · rw [List.getElem?_eq_none h1] at h; cases h
  rw [ccs_len] at hl
  have hi : j / 3 < vs.length := by omega
  have hv : vs[j / 3]? = some vs[j / 3] := List.getElem?_eq_getElem hi
  obtain ⟨a, b, c⟩ := ccs_at vs _ _ hv
  refine ⟨j / 3, _, hv, ?_⟩
  have hr : j = j / 3 * 3 ∨ j = j / 3 * 3 + 1 ∨ j = j / 3 * 3 + 2 := by omega
  rcases hr with hr | hr | hr
  · left; refine ⟨hr, ?_⟩; rw [← hr] at a; rw [a] at h; injection h with h; exact h.symm
  · right; left; refine ⟨hr, ?_⟩; rw [← hr] at b; rw [b] at h; injection h with h; exact h.symm
  · right; right; refine ⟨hr, ?_⟩; rw [← hr] at c; rw [c] at h; injection h with h; exact h.symm

/-- v is a slice of n values, the row of vs; its block, if it has one, is one of S. -/
def OwC (w : World) (S : Nat → Prop) (v : Value) (n : Nat) (vs : List C) : Prop :=
  w.ownsRow 0 45 3 v n (ccs vs) ∧ (∀ x ∈ vs, COk x) ∧ ∀ k, v.ownBlock = some k → S k
section
variable {w w' : World} {v : Value} {n : Nat} {vs : List C} {S T : Nat → Prop}
set_option maxRecDepth 100000 in
theorem OwC.len (h : OwC w S v n vs) : vs.length = n := by
  have := h.1.1
  rw [ccs_len] at this
  omega
set_option maxRecDepth 100000 in
theorem OwC.nil_ (w : World) (S : Nat → Prop) : OwC w S (.slice none 0 0) 0 [] := ⟨World.ownsRow_nil w 0 45 3, by simp, fun k hk => by simp [Value.ownBlock] at hk⟩
set_option maxRecDepth 100000 in
theorem OwC.made (w : World) (S : Nat → Prop) (hS : S w.heap.size) : OwC (w.alloc (.cells #[] 45)) S (.slice (some ⟨w.heap.size, 0, none⟩) 0 0) 0 [] :=
  ⟨World.ownsRow_made (e := 45) (size := 3) w #[] 0 (Nat.zero_le _) (by simp [maxLen]) (by simp), by simp, fun k hk => by simp [Value.ownBlock] at hk; subst hk; exact hS⟩
set_option maxRecDepth 100000 in
theorem OwC.mono (h : OwC w S v n vs) (hd : ∀ b, b < w.heap.size → S b → T b) : OwC w T v n vs := ⟨h.1, h.2.1, fun k hk => hd k (h.1.lt k hk).2 (h.2.2 k hk)⟩
set_option maxRecDepth 100000 in
theorem OwC.drew (h : OwC w S v n vs) : OwC w.drew S v n vs := h
set_option maxRecDepth 100000 in
theorem OwC.alloc (h : OwC w S v n vs) (o : Obj) : OwC (w.alloc o) S v n vs := ⟨h.1.alloc o, h.2.1, h.2.2⟩
set_option maxRecDepth 100000 in
theorem OwC.below {B : Nat} (h : OwC w S v n vs) (hb : Below B w w') (hS : ∀ b, S b → b < B) : OwC w' S v n vs := by
  obtain ⟨⟨h1, h2⟩, h3, h4⟩ := h
  refine ⟨⟨h1, ?_⟩, h3, h4⟩
  rcases h2 with h2 | ⟨g, cap, cur, hv, hg, hh, r⟩
  · exact Or.inl h2
  · exact Or.inr ⟨g, cap, cur, hv, hg, (hb.block g (hS g (h4 g (by rw [hv]; rfl)))).trans hh, r⟩
set_option maxRecDepth 100000 in
theorem OwC.reads (h : OwC w S v n vs) (hn : n ≤ 9223372036854775806) : ∃ A c, v = .slice A n c ∧ n ≤ c ∧ c ≤ maxLen ∧ (A = none → c = 0) ∧ RC w A n vs := by
  have hlen := h.len
  obtain ⟨⟨h1, h2⟩, hl, hS⟩ := h
  rcases h2 with ⟨rfl, h0⟩ | ⟨g, cap, cur, rfl, _, hg, hc, hm, hcur, htake⟩
  · subst h0
    exact ⟨none, 0, rfl, Nat.le_refl _, Nat.zero_le _, fun _ => rfl, hlen, hl, hn, fun h => absurd h (by omega)⟩
  · refine ⟨_, _, rfl, hc, hm, (fun e => by cases e), hlen, hl, hn, fun _ => ⟨g, 0, rfl, Blk.lt hg, fun i x hi => ?_⟩⟩
    obtain ⟨a, b, c⟩ := ccs_at vs i x hi
    have hil : i < vs.length := by
      rcases Nat.lt_or_ge i vs.length with h | h
      · exact h
      · rw [List.getElem?_eq_none h] at hi; cases hi
    have key : ∀ j u, j < n * 3 → (ccs vs)[j]? = some u → w.cell? ⟨g, j, none⟩ = some u := by
      intro j u hj hu
      rw [Blk.cell hg j]
      rw [← htake, List.getElem?_take_of_lt hj] at hu
      simpa using hu
    rw [Nat.zero_add]
    exact ⟨key _ _ (by omega) a, key _ _ (by omega) b, key _ _ (by omega) c⟩
end

set_option maxRecDepth 100000 in
theorem info45 : (Try.prog.info? 45).map (fun i => (i.zero, i.size, i.bytes)) = some (some (.agg #[.string ⟨#[]⟩, .int .i64 0, .bool false]), 3, 32) := by kernel_rfl
set_option maxRecDepth 100000 in
theorem RC.cells {w : World} {g o m : Nat} {ks : List C} (hr : RC w (some ⟨g, o, none⟩) m ks) : ∀ j u, (ccs ks)[j]? = some u → w.cell? ((⟨g, o, none⟩ : Addr).add j) = some u := by
  intro j u hu
  obtain ⟨i, x, hi, hx⟩ := ccs_of ks j u hu
  have hil : i < ks.length := by
    rcases Nat.lt_or_ge i ks.length with h | h
    · exact h
    · rw [List.getElem?_eq_none h] at hi; cases hi
  obtain ⟨h1, _, _, h3⟩ := hr
  obtain ⟨g', o', e, _, hc⟩ := h3 (by omega)
  injection e with e
  injection e with e1 e2
  subst e1 e2
  have hadd : (⟨g, o, none⟩ : Addr).add j = ⟨g, o + j, none⟩ := by unfold Addr.add; split <;> simp_all
  obtain ⟨c0, c1, c2⟩ := hc i x hi
  rw [hadd]
  rcases hx with ⟨rfl, rfl⟩ | ⟨rfl, rfl⟩ | ⟨rfl, rfl⟩
  · exact c0
  · exact c1
  · exact c2
section
variable {w : World} {S : Nat → Prop}
set_option maxRecDepth 100000 in
theorem run_appC (ty : TypeId) (v : Value) (n : Nat) (vs : List C) (h : OwC w S v n vs) (A : Option Addr) (m c : Nat) (ks : List C) (hr : RC w A m ks) (hb : (n + m) * 32 ≤ 140737488355328) :
    ∃ v' w', (Builtin.append_ #[22, 22] ty #[v, .slice A m c]).run Try.prog w = .ok v' w' ∧ OwC w' (fun b => S b ∨ w.heap.size ≤ b) v' (n + m) (vs ++ ks) ∧ w.grownBy w' v.ownBlock := by
  obtain ⟨i0, hi, hz0, hz1, hz2⟩ := info_parts info45
  have hok : ∀ x ∈ vs ++ ks, COk x := by
    intro x hx
    rcases List.mem_append.1 hx with hx | hx
    · exact h.2.1 x hx
    · exact hr.2.1 x hx
  rcases A with _ | ad
  · have hm : m = 0 := by
      rcases Nat.eq_zero_or_pos m with h0 | h0
      · exact h0
      · obtain ⟨_, _, e, _⟩ := hr.2.2.2 h0
        cases e
    subst hm
    have hk : ks = [] := List.eq_nil_of_length_eq_zero hr.1
    subst hk
    refine ⟨v, w, ?_, by simpa using h.mono fun b _ hS => Or.inl hS, World.grownBy.refl w _⟩
    rcases h.1.2 with ⟨rfl, rfl⟩ | ⟨g, cap, cur, rfl, _, _, hnc, _⟩
    · simp [Builtin.append_, run_underlying Try.underlying22, sizeOf, typeInfo, hi, Builtin.lenOf, Builtin.firstCells]
    · simp [Builtin.append_, run_underlying Try.underlying22, sizeOf, typeInfo, hi, Builtin.lenOf, Builtin.firstCells, hnc, storeCells]
  · have hcells : ∀ j u, (ccs ks)[j]? = some u → w.cell? (ad.add j) = some u := by
      rcases Nat.eq_zero_or_pos m with hm | hm
      · have hk : ks = [] := List.eq_nil_of_length_eq_zero (by rw [hr.1]; exact hm)
        subst hk
        intro j u hj
        simp [ccs] at hj
      · obtain ⟨g, o, e, _, _⟩ := hr.2.2.2 hm
        injection e with e
        subst e
        exact hr.cells
    obtain ⟨v', w', h1, h2, h3, _, h5⟩ := run_append_own_at (P := Try.prog) w 0 22 ty 45 i0 (.agg #[.string ⟨#[]⟩, .int .i64 0, .bool false]) 3 32 Try.underlying22 hi hz0 hz1 hz2 (by decide) (by decide) v n (ccs vs) h.1 ad m c (ccs ks)
      (by rw [ccs_len, hr.1]) hcells (ccs_one ks) (by simp only [maxLen]; omega) hb (Nat.zero_le _)
    rw [← ccs_append] at h2
    refine ⟨v', w', h1, ⟨h2, hok, fun q hq => ?_⟩, h3⟩
    rcases h5 with h5 | h5
    · exact Or.inl (h.2.2 q (by rw [← h5]; exact hq))
    · rw [h5] at hq
      injection hq with hq
      exact Or.inr (by omega)

variable {ops : Array Oper} {rest : List Oper} {o : Oper} {a : Act} {Q : Exit → Act → World → Prop}
set_option maxRecDepth 100000 in
theorem wpList_appC (hgd : o.guard = none) (s x : Operand) (ho : o.op = .call { callee := .builtin .append, args := #[s, x], argTypes := #[22, 22] })
    (v : Value) (n : Nat) (vs : List C) (hs : a.eval s = v) (h : OwC w S v n vs) (A : Option Addr) (m c : Nat) (ks : List C) (hx : a.eval x = .slice A m c) (hr : RC w A m ks) (hb : (n + m) * 32 ≤ 140737488355328)
    (hK : ∀ v' w', OwC w' (fun b => S b ∨ w.heap.size ≤ b) v' (n + m) (vs ++ ks) → w.grownBy w' v.ownBlock → wpList Try.prog ops Q rest (a.put o.dst v') w') : wpList Try.prog ops Q (o :: rest) a w := by
  refine wpList_plain hgd fun K hk => ?_
  obtain ⟨v', w', hrun, h2, h3⟩ := run_appC o.type v n vs h A m c ks hr hb
  unfold Oper.wp execOp
  simp only [ho, resolve, invoke, builtin, Sem.run_bind, Sem.run_pure, Result.andThen_ok, List.map_toArray, List.map_cons, List.map_nil, hs, hx, hrun]
  exact hk _ _ (hK v' w' h2 h3)
end
set_option maxRecDepth 100000 in
/-- one value, in a block of its own -/
theorem RC.one (w : World) (nm : ByteArray) (k : Int) (nd : Bool) (b : Nat) (hb : b = w.heap.size) (hok : COk ⟨nm, k, nd⟩) : RC (w.alloc (.cells #[.string nm, .int .i64 k, .bool nd] 45)) (some ⟨b, 0, none⟩) 1 [⟨nm, k, nd⟩] := by
  subst hb
  refine ⟨rfl, by simpa using hok, by omega, fun _ => ⟨_, _, rfl, by simp, fun i v hi => ?_⟩⟩
  cases i with
  | zero =>
    simp at hi
    subst hi
    simpa using BoxC.new w nm k nd
  | succ i => simp at hi
set_option maxRecDepth 100000 in
theorem OwC.blk {w : World} {S : Nat → Prop} {v : Value} {n : Nat} {vs : List C} (h : OwC w S v n vs) (hn : 0 < n) : ∃ g c, v = .slice (some ⟨g, 0, none⟩) n c ∧ S g ∧ n ≤ c ∧ c ≤ maxLen := by
  obtain ⟨⟨h1, h2⟩, hl, hS⟩ := h
  rcases h2 with ⟨rfl, h0⟩ | ⟨g, cap, cur, rfl, _, hg, hc, hm, _⟩
  · omega
  · exact ⟨g, cap, rfl, hS g rfl, hc, hm⟩
/-- a row of values that grows, of the call that began in w -/
def OwnC (w wr : World) (v : Value) (vs : List C) : Prop := OwC wr (fun b => w.heap.size ≤ b) v vs.length vs ∧ Below w.heap.size w wr
set_option maxRecDepth 100000 in
theorem OwnC.step {w wr w1 : World} {v v' : Value} {n' : Nat} {l l' : List C} (h : OwnC w wr v l) (hgrow : wr.grownBy w1 v.ownBlock) (hn : OwC w1 (fun b => w.heap.size ≤ b ∨ wr.heap.size ≤ b) v' n' l') : OwnC w w1 v' l' := by
  have hs := h.2.size
  have hl := hn.len
  subst hl
  exact ⟨hn.mono fun b _ hb => by omega, h.2.grown hgrow hs fun k hk => h.1.2.2 k hk⟩
set_option maxRecDepth 100000 in
theorem OwnC.alloc {w wr : World} {v : Value} {l : List C} (h : OwnC w wr v l) (o : Obj) : OwnC w (wr.alloc o) v l := ⟨h.1.alloc o, h.2.alloc h.2.size o⟩
set_option maxRecDepth 100000 in
theorem OwnC.nil_at {w wr : World} (h : Below w.heap.size w wr) : OwnC w wr (.slice none 0 0) [] := ⟨OwC.nil_ _ _, h⟩
set_option maxRecDepth 100000 in
theorem OwnC.made (w : World) : OwnC w (w.alloc (.cells #[] 45)) (.slice (some ⟨w.heap.size, 0, none⟩) 0 0) [] := ⟨OwC.made _ _ (Nat.le_refl _), (Below.refl _ _).alloc (Nat.le_refl _) _⟩

/-! ### lent -/
def markC : C := ⟨⟨#[]⟩, 77, false⟩
/-- a row in memory of its own, with a markC behind it -/
def LentC (w : World) (vs : List C) (g c : Nat) (w' : World) : Prop :=
  vs.length + 1 ≤ c ∧ c ≤ maxLen ∧ RC w' (some ⟨g, 0, none⟩) (vs.length + 1) (vs ++ [markC]) ∧ w.heap.size ≤ g ∧ g < w'.heap.size ∧ Below w.heap.size w w'
set_option maxRecDepth 100000 in
theorem RC.init {w : World} {A : Option Addr} {vs : List C} {x : C} (h : RC w A (vs.length + 1) (vs ++ [x])) : RC w A vs.length vs := by
  obtain ⟨h1, h2, h2', h3⟩ := h
  refine ⟨rfl, fun v hv => h2 v (by simp [hv]), by omega, fun hn => ?_⟩
  obtain ⟨g, o, e, hg, hc⟩ := h3 (by omega)
  refine ⟨g, o, e, hg, fun i v hi => hc i v ?_⟩
  have hil : i < vs.length := by
    rcases Nat.lt_or_ge i vs.length with h | h
    · exact h
    · rw [List.getElem?_eq_none h] at hi; cases hi
  rw [List.getElem?_append_left hil]
  exact hi
set_option maxRecDepth 100000 in
theorem LentC.rv {w w' : World} {vs : List C} {g c : Nat} (h : LentC w vs g c w') : RC w' (some ⟨g, 0, none⟩) vs.length vs := h.2.2.1.init
set_option maxRecDepth 100000 in
theorem markC_ok : COk markC := ⟨Nat.zero_le _⟩
set_option maxRecDepth 100000 in
set_option maxHeartbeats 1000000 in
theorem lentC_any (A : Option Addr) (n c : Nat) (vs : List C) (w : World) (h : RC w A n vs) (hb : (n + 1) * 32 ≤ 140737488355328) :
    Calls Try.prog 10 #[.slice A n c] w fun e w' => ∃ g c', e = .returned (.slice (some ⟨g, 0, none⟩) n c') ∧ LentC w vs g c' w' := by
  have hl := h.1
  have HR := Lib.hid (h.below ((Below.refl _ w).alloc (Nat.le_refl _) (.cells #[] 45)))
  have HO := Lib.hid (OwnC.made w)
  clear h
  go_enter Try.func10, Try.ntmps10
  go_wp2_with (first
    | (at_builtin; refine wpList_appC rfl (.tmp 4) (.tmp 5) rfl _ 0 [] rfl HO.out.1 A n c vs rfl HR.out (by omega) ?_; intro v1 w1 hown hgrow; have HS := Lib.hid (OwnC.step HO.out hgrow hown); clear hown hgrow)
    | (at_builtin; go_must (refine wpList_appC rfl (.tmp 7) (.tmp 9) rfl v1 _ ([] ++ vs) rfl (HS.out.alloc _).1 _ 1 1 [markC] rfl (by exact RC.one _ _ _ _ _ (by simp) markC_ok) (by simp; omega) ?_); intro v2 w2 hown hgrow; have HS2 := Lib.hid (OwnC.step (HS.out.alloc _) hgrow hown); have hown2 := HS2.out.1; obtain ⟨g, c2, rfl, hg, hc, hm⟩ := hown2.blk (by simp); have HX := Lib.hid hown2; have hcc : n ≤ c2 := (by simp at hc; omega); clear hown hgrow hown2))
  go_ret
  have ho := HX.out
  simp only [List.nil_append] at ho hc
  have hlen : (vs ++ [markC]).length = vs.length + 1 := by simp
  rw [hlen] at ho hc
  obtain ⟨A3, c3, e, _, _, _, hr⟩ := ho.reads (by omega)
  injection e with e1 e2 e3
  subst e1 e3
  have hb2 := HS2.out.2
  exact ⟨g, c2, rfl, hc, hm, hr, hg, (by obtain ⟨_, _, e, hlt, _⟩ := hr.2.2.2 (by omega); injection e with e; injection e with e; subst e; exact hlt), hb2⟩
set_option maxRecDepth 100000 in
theorem OwC.keep {w w' : World} {S T : Nat → Prop} {v : Value} {n : Nat} {vs : List C} (h : OwC w S v n vs) (hf : Fr w w' T) (hd : ∀ b, S b → ¬ T b) : OwC w' S v n vs := by
  obtain ⟨⟨h1, h2⟩, h3, h4⟩ := h
  refine ⟨⟨h1, ?_⟩, h3, h4⟩
  rcases h2 with h2 | ⟨g, cap, cur, hv, hg, hh, r⟩
  · exact Or.inl h2
  · exact Or.inr ⟨g, cap, cur, hv, hg, (hf.block g (Blk.lt hh) (hd g (h4 g (by rw [hv]; rfl)))).trans hh, r⟩
set_option maxRecDepth 100000 in
theorem RC.of_blk {w : World} {g : Nat} {vs : List C} (h : Blk w g 45 (ccs vs).toArray) (hv : ∀ v ∈ vs, COk v) (hn : vs.length ≤ 9223372036854775806) : RC w (some ⟨g, 0, none⟩) vs.length vs := by
  refine ⟨rfl, hv, hn, fun _ => ⟨g, 0, rfl, h.lt, fun i v hi => ?_⟩⟩
  obtain ⟨a, b, c⟩ := ccs_at vs i v hi
  rw [Nat.zero_add]
  refine ⟨?_, ?_, ?_⟩
  · rw [h.cell]; simpa using a
  · rw [h.cell]; simpa using b
  · rw [h.cell]; simpa using c
set_option maxRecDepth 100000 in
theorem OwC.up5 {w w1 : World} {S : Nat → Prop} {v : Value} {n : Nat} {vs : List C} (h : OwC w S v n vs) (hb : Below w.heap.size w w1) : OwC w1 S v n vs :=
  h.keep (Fr.of_below hb (fun _ => False)) (fun _ _ h => h.elim)
set_option maxRecDepth 100000 in
theorem RC.take {w : World} {A : Option Addr} {n : Nat} {vs : List C} (h : RC w A n vs) {k : Nat} (hk : k ≤ n) : RC w A k (vs.take k) := by
  obtain ⟨h1, h2, h2', h3⟩ := h
  refine ⟨by simp; omega, fun v hv => h2 v (List.mem_of_mem_take hv), by omega, fun hn => ?_⟩
  obtain ⟨g, o, e, hg, hc⟩ := h3 (by omega)
  refine ⟨g, o, e, hg, fun i v hi => hc i v ?_⟩
  rw [List.getElem?_take] at hi
  split at hi
  · exact hi
  · cases hi
set_option maxRecDepth 100000 in
theorem OwnC.up {w wr w1 : World} {v : Value} {l : List C} (h : OwnC w wr v l) (hb : Below wr.heap.size wr w1) : OwnC w w1 v l := by
  have hs := h.2.size
  refine ⟨?_, below_trans h.2 hb⟩
  obtain ⟨⟨h1, h2⟩, h3, h4⟩ := h.1
  refine ⟨⟨h1, ?_⟩, h3, h4⟩
  rcases h2 with h2 | ⟨g, cap, cur, hv, hg, hh, r⟩
  · exact Or.inl h2
  · exact Or.inr ⟨g, cap, cur, hv, hg, (hb.block g (Blk.lt hh)).trans hh, r⟩
end Go.Proofs.Ytiilhnedflmgoaa
