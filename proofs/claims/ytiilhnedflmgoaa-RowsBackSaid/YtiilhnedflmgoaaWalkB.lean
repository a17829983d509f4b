/-
  ROWS OF VALUES IN MEMORY; THE WALKS OF lent, Same.
-/
import Derived.Test.YtiilhnedflmgoaaWalkA
namespace Go.Proofs.Ytiilhnedflmgoaa
open Go.RowKit Go.Sort
attribute [local go_sem high] run_eqv run_neqv run_eqs

/-- a value that comes in -/
structure VOk (x : V) : Prop where
  n : N64 x
  s : x.s.size ≤ 9223372036854775807
/-- The slice value '.slice A n c' reads as the row vs. -/
def RV (w : World) (A : Option Addr) (n : Nat) (vs : List V) : Prop :=
  vs.length = n ∧ (∀ v ∈ vs, VOk v) ∧ n ≤ 9223372036854775806 ∧ (0 < n → ∃ g o, A = some ⟨g, o, none⟩ ∧ g < w.heap.size ∧ ∀ i v, vs[i]? = some v → Box w g (o + i * 3) v.k v.n v.s)
set_option maxRecDepth 100000 in
theorem RV.below {w w' : World} {A : Option Addr} {n : Nat} {vs : List V} (h : RV w A n vs) (hb : Below w.heap.size w w') : RV w' A n vs := by
  obtain ⟨h1, h2, h2', h3⟩ := h
  refine ⟨h1, h2, h2', fun hn => ?_⟩
  obtain ⟨g, o, e, hg, hc⟩ := h3 hn
  exact ⟨g, o, e, Nat.lt_of_lt_of_le hg hb.size, fun i v hi => (hc i v hi).below hb hg⟩
set_option maxRecDepth 100000 in
theorem RV.at_ {w : World} {A : Option Addr} {n : Nat} {vs : List V} (h : RV w A n vs) {k : Nat} (hk : k < n) : ∃ g o v, A = some ⟨g, o, none⟩ ∧ g < w.heap.size ∧ vs[k]? = some v ∧ VOk v ∧ Box w g (o + k * 3) v.k v.n v.s := by
  obtain ⟨h1, h2, _, h3⟩ := h
  obtain ⟨g, o, e, hg, hc⟩ := h3 (by omega)
  have hv : vs[k]? = some vs[k] := List.getElem?_eq_getElem (by omega)
  exact ⟨g, o, _, e, hg, hv, h2 _ (List.getElem_mem _), hc k _ hv⟩
set_option maxRecDepth 100000 in
theorem take_next {vs : List V} {k : Nat} {v : V} (h : vs[k]? = some v) : vs.take (k + 1) = vs.take k ++ [v] := by
  rw [List.take_add_one, h]; rfl
set_option maxRecDepth 100000 in
theorem all_next {vs : List V} {k : Nat} {v : V} (h : vs[k]? = some v) (ha : (vs.take k).all V.may = true) (hv : v.may = true) : (vs.take (k + 1)).all V.may = true := by
  rw [take_next h, List.all_append, ha]
  simp [hv]
set_option maxRecDepth 100000 in
theorem all_not {vs : List V} {k : Nat} {v : V} (h : vs[k]? = some v) (hv : v.may = false) : vs.all V.may = false := by
  rw [Bool.eq_false_iff]
  intro ha
  rw [List.all_eq_true] at ha
  rw [ha v (List.mem_of_getElem? h)] at hv
  cases hv
set_option maxRecDepth 100000 in
theorem up1 {w wr w1 : World} {o : Obj} (h : Below w.heap.size w wr) (h2 : Below (wr.alloc o).heap.size (wr.alloc o) w1) : Below w.heap.size w w1 := (h.alloc h.size o).trans (h2.mono (by have := h.size; simp; omega))
/-- values as cells -/
def vcs : List V → List Value
  | [] => []
  | v :: r => .int .i64 v.k :: .int .i64 v.n :: .string v.s :: vcs r
set_option maxRecDepth 100000 in
theorem vcs_len (vs : List V) : (vcs vs).length = vs.length * 3 := by
  induction vs with
  | nil => rfl
  | cons v r ih => simp [vcs, ih]; omega
set_option maxRecDepth 100000 in
theorem vcs_append (a b : List V) : vcs (a ++ b) = vcs a ++ vcs b := by
  induction a with
  | nil => rfl
  | cons v r ih => simp [vcs, ih]
set_option maxRecDepth 100000 in
theorem vcs_one (vs : List V) : ∀ u ∈ vcs vs, u.oneCell' = true := by
  induction vs with
  | nil => intro u hu; simp [vcs] at hu
  | cons v r ih =>
    intro u hu
    simp only [vcs, List.mem_cons] at hu
    rcases hu with rfl | rfl | rfl | hu
    · rfl
    · rfl
    · rfl
    · exact ih u hu
set_option maxRecDepth 100000 in
theorem vcs_at (vs : List V) (i : Nat) (v : V) (h : vs[i]? = some v) : (vcs vs)[i * 3]? = some (.int .i64 v.k) ∧ (vcs vs)[i * 3 + 1]? = some (.int .i64 v.n) ∧ (vcs vs)[i * 3 + 2]? = some (.string v.s) := by
  induction vs generalizing i with
  | nil => simp at h
  | cons u r ih =>
    cases i with
    | zero => simp at h; subst h; simp [vcs]
    | succ i =>
      simp at h
      have := ih i h
      simp only [vcs, show (i + 1) * 3 = i * 3 + 1 + 1 + 1 by omega, show i * 3 + 1 + 1 + 1 + 1 = (i * 3 + 1) + 1 + 1 + 1 by omega, show i * 3 + 1 + 1 + 1 + 2 = (i * 3 + 2) + 1 + 1 + 1 by omega, List.getElem?_cons_succ]
      exact this
set_option maxRecDepth 100000 in
theorem vcs_of (vs : List V) (j : Nat) (u : Value) (h : (vcs vs)[j]? = some u) : ∃ i v, vs[i]? = some v ∧ ((j = i * 3 ∧ u = .int .i64 v.k) ∨ (j = i * 3 + 1 ∧ u = .int .i64 v.n) ∨ (j = i * 3 + 2 ∧ u = .string v.s)) := by
  have hl : j < (vcs vs).length := by
    rcases Nat.lt_or_ge j (vcs vs).length with h1 | h1
    · exact h1
    · rw [List.getElem?_eq_none h1] at h; cases h
  rw [vcs_len] at hl
  have hi : j / 3 < vs.length := by omega
  have hv : vs[j / 3]? = some vs[j / 3] := List.getElem?_eq_getElem hi
  obtain ⟨a, b, c⟩ := vcs_at vs _ _ hv
  refine ⟨j / 3, _, hv, ?_⟩
  have hr : j = j / 3 * 3 ∨ j = j / 3 * 3 + 1 ∨ j = j / 3 * 3 + 2 := by omega
  rcases hr with hr | hr | hr
  · left; refine ⟨hr, ?_⟩; rw [← hr] at a; rw [a] at h; injection h with h; exact h.symm
  · right; left; refine ⟨hr, ?_⟩; rw [← hr] at b; rw [b] at h; injection h with h; exact h.symm
  · right; right; refine ⟨hr, ?_⟩; rw [← hr] at c; rw [c] at h; injection h with h; exact h.symm

/-- v is a slice of n values, the row of vs; its block, if it has one, is one of S. -/
def OwV (w : World) (S : Nat → Prop) (v : Value) (n : Nat) (vs : List V) : Prop :=
  w.ownsRow 0 40 3 v n (vcs vs) ∧ (∀ x ∈ vs, VOk x) ∧ ∀ k, v.ownBlock = some k → S k
section
variable {w w' : World} {v : Value} {n : Nat} {vs : List V} {S T : Nat → Prop}
set_option maxRecDepth 100000 in
theorem OwV.len (h : OwV w S v n vs) : vs.length = n := by
  have := h.1.1
  rw [vcs_len] at this
  omega
set_option maxRecDepth 100000 in
theorem OwV.nil_ (w : World) (S : Nat → Prop) : OwV w S (.slice none 0 0) 0 [] := ⟨World.ownsRow_nil w 0 40 3, by simp, fun k hk => by simp [Value.ownBlock] at hk⟩
set_option maxRecDepth 100000 in
theorem OwV.made (w : World) (S : Nat → Prop) (hS : S w.heap.size) : OwV (w.alloc (.cells #[] 40)) S (.slice (some ⟨w.heap.size, 0, none⟩) 0 0) 0 [] :=
  ⟨World.ownsRow_made (e := 40) (size := 3) w #[] 0 (Nat.zero_le _) (by simp [maxLen]) (by simp), by simp, fun k hk => by simp [Value.ownBlock] at hk; subst hk; exact hS⟩
set_option maxRecDepth 100000 in
theorem OwV.mono (h : OwV w S v n vs) (hd : ∀ b, b < w.heap.size → S b → T b) : OwV w T v n vs := ⟨h.1, h.2.1, fun k hk => hd k (h.1.lt k hk).2 (h.2.2 k hk)⟩
set_option maxRecDepth 100000 in
theorem OwV.drew (h : OwV w S v n vs) : OwV w.drew S v n vs := h
set_option maxRecDepth 100000 in
theorem OwV.alloc (h : OwV w S v n vs) (o : Obj) : OwV (w.alloc o) S v n vs := ⟨h.1.alloc o, h.2.1, h.2.2⟩
set_option maxRecDepth 100000 in
theorem OwV.below {B : Nat} (h : OwV w S v n vs) (hb : Below B w w') (hS : ∀ b, S b → b < B) : OwV w' S v n vs := by
  obtain ⟨⟨h1, h2⟩, h3, h4⟩ := h
  refine ⟨⟨h1, ?_⟩, h3, h4⟩
  rcases h2 with h2 | ⟨g, cap, cur, hv, hg, hh, r⟩
  · exact Or.inl h2
  · exact Or.inr ⟨g, cap, cur, hv, hg, (hb.block g (hS g (h4 g (by rw [hv]; rfl)))).trans hh, r⟩
set_option maxRecDepth 100000 in
theorem OwV.reads (h : OwV w S v n vs) (hn : n ≤ 9223372036854775806) : ∃ A c, v = .slice A n c ∧ n ≤ c ∧ c ≤ maxLen ∧ (A = none → c = 0) ∧ RV w A n vs := by
  have hlen := h.len
  obtain ⟨⟨h1, h2⟩, hl, hS⟩ := h
  rcases h2 with ⟨rfl, h0⟩ | ⟨g, cap, cur, rfl, _, hg, hc, hm, hcur, htake⟩
  · subst h0
    exact ⟨none, 0, rfl, Nat.le_refl _, Nat.zero_le _, fun _ => rfl, hlen, hl, hn, fun h => absurd h (by omega)⟩
  · refine ⟨_, _, rfl, hc, hm, (fun e => by cases e), hlen, hl, hn, fun _ => ⟨g, 0, rfl, Blk.lt hg, fun i x hi => ?_⟩⟩
    obtain ⟨a, b, c⟩ := vcs_at vs i x hi
    have hil : i < vs.length := by
      rcases Nat.lt_or_ge i vs.length with h | h
      · exact h
      · rw [List.getElem?_eq_none h] at hi; cases hi
    have key : ∀ j u, j < n * 3 → (vcs vs)[j]? = some u → w.cell? ⟨g, j, none⟩ = some u := by
      intro j u hj hu
      rw [Blk.cell hg j]
      rw [← htake, List.getElem?_take_of_lt hj] at hu
      simpa using hu
    rw [Nat.zero_add]
    exact ⟨key _ _ (by omega) a, key _ _ (by omega) b, key _ _ (by omega) c⟩
end

set_option maxRecDepth 100000 in
theorem info40 : (Try.prog.info? 40).map (fun i => (i.zero, i.size, i.bytes)) = some (some (.agg #[.int .i64 0, .int .i64 0, .string ⟨#[]⟩]), 3, 32) := by kernel_rfl
set_option maxRecDepth 100000 in
theorem RV.cells {w : World} {g o m : Nat} {ks : List V} (hr : RV w (some ⟨g, o, none⟩) m ks) : ∀ j u, (vcs ks)[j]? = some u → w.cell? ((⟨g, o, none⟩ : Addr).add j) = some u := by
  intro j u hu
  obtain ⟨i, x, hi, hx⟩ := vcs_of ks j u hu
  have hil : i < ks.length := by
    rcases Nat.lt_or_ge i ks.length with h | h
    · exact h
    · rw [List.getElem?_eq_none h] at hi; cases hi
  obtain ⟨h1, _, _, h3⟩ := hr
  obtain ⟨g', o', e, _, hc⟩ := h3 (by omega)
  injection e with e
  injection e with e1 e2
  subst e1 e2
  have hadd : (⟨g, o, none⟩ : Addr).add j = ⟨g, o + j, none⟩ := by unfold Addr.add; split <;> simp_all
  obtain ⟨c0, c1, c2⟩ := hc i x hi
  rw [hadd]
  rcases hx with ⟨rfl, rfl⟩ | ⟨rfl, rfl⟩ | ⟨rfl, rfl⟩
  · exact c0
  · exact c1
  · exact c2
section
variable {w : World} {S : Nat → Prop}
set_option maxRecDepth 100000 in
theorem run_appV (ty : TypeId) (v : Value) (n : Nat) (vs : List V) (h : OwV w S v n vs) (A : Option Addr) (m c : Nat) (ks : List V) (hr : RV w A m ks) (hb : (n + m) * 32 ≤ 140737488355328) :
    ∃ v' w', (Builtin.append_ #[28, 28] ty #[v, .slice A m c]).run Try.prog w = .ok v' w' ∧ OwV w' (fun b => S b ∨ w.heap.size ≤ b) v' (n + m) (vs ++ ks) ∧ w.grownBy w' v.ownBlock := by
  obtain ⟨i0, hi, hz0, hz1, hz2⟩ := info_parts info40
  have hok : ∀ x ∈ vs ++ ks, VOk x := by
    intro x hx
    rcases List.mem_append.1 hx with hx | hx
    · exact h.2.1 x hx
    · exact hr.2.1 x hx
  rcases A with _ | ad
  · have hm : m = 0 := by
      rcases Nat.eq_zero_or_pos m with h0 | h0
      · exact h0
      · obtain ⟨_, _, e, _⟩ := hr.2.2.2 h0
        cases e
    subst hm
    have hk : ks = [] := List.eq_nil_of_length_eq_zero hr.1
    subst hk
    refine ⟨v, w, ?_, by simpa using h.mono fun b _ hS => Or.inl hS, World.grownBy.refl w _⟩
    rcases h.1.2 with ⟨rfl, rfl⟩ | ⟨g, cap, cur, rfl, _, _, hnc, _⟩
    · simp [Builtin.append_, run_underlying Try.underlying28, sizeOf, typeInfo, hi, Builtin.lenOf, Builtin.firstCells]
    · simp [Builtin.append_, run_underlying Try.underlying28, sizeOf, typeInfo, hi, Builtin.lenOf, Builtin.firstCells, hnc, storeCells]
  · have hcells : ∀ j u, (vcs ks)[j]? = some u → w.cell? (ad.add j) = some u := by
      rcases Nat.eq_zero_or_pos m with hm | hm
      · have hk : ks = [] := List.eq_nil_of_length_eq_zero (by rw [hr.1]; exact hm)
        subst hk
        intro j u hj
        simp [vcs] at hj
      · obtain ⟨g, o, e, _, _⟩ := hr.2.2.2 hm
        injection e with e
        subst e
        exact hr.cells
    obtain ⟨v', w', h1, h2, h3, _, h5⟩ := run_append_own_at (P := Try.prog) w 0 28 ty 40 i0 (.agg #[.int .i64 0, .int .i64 0, .string ⟨#[]⟩]) 3 32 Try.underlying28 hi hz0 hz1 hz2 (by decide) (by decide) v n (vcs vs) h.1 ad m c (vcs ks)
      (by rw [vcs_len, hr.1]) hcells (vcs_one ks) (by simp only [maxLen]; omega) hb (Nat.zero_le _)
    rw [← vcs_append] at h2
    refine ⟨v', w', h1, ⟨h2, hok, fun q hq => ?_⟩, h3⟩
    rcases h5 with h5 | h5
    · exact Or.inl (h.2.2 q (by rw [← h5]; exact hq))
    · rw [h5] at hq
      injection hq with hq
      exact Or.inr (by omega)

variable {ops : Array Oper} {rest : List Oper} {o : Oper} {a : Act} {Q : Exit → Act → World → Prop}
set_option maxRecDepth 100000 in
theorem wpList_appV (hgd : o.guard = none) (s x : Operand) (ho : o.op = .call { callee := .builtin .append, args := #[s, x], argTypes := #[28, 28] })
    (v : Value) (n : Nat) (vs : List V) (hs : a.eval s = v) (h : OwV w S v n vs) (A : Option Addr) (m c : Nat) (ks : List V) (hx : a.eval x = .slice A m c) (hr : RV w A m ks) (hb : (n + m) * 32 ≤ 140737488355328)
    (hK : ∀ v' w', OwV w' (fun b => S b ∨ w.heap.size ≤ b) v' (n + m) (vs ++ ks) → w.grownBy w' v.ownBlock → wpList Try.prog ops Q rest (a.put o.dst v') w') : wpList Try.prog ops Q (o :: rest) a w := by
  refine wpList_plain hgd fun K hk => ?_
  obtain ⟨v', w', hrun, h2, h3⟩ := run_appV o.type v n vs h A m c ks hr hb
  unfold Oper.wp execOp
  simp only [ho, resolve, invoke, builtin, Sem.run_bind, Sem.run_pure, Result.andThen_ok, List.map_toArray, List.map_cons, List.map_nil, hs, hx, hrun]
  exact hk _ _ (hK v' w' h2 h3)
end
set_option maxRecDepth 100000 in
/-- one value, in a block of its own -/
theorem RV.one (w : World) (k n : Int) (s : ByteArray) (b : Nat) (hb : b = w.heap.size) (hok : VOk ⟨k, n, s⟩) : RV (w.alloc (.cells #[.int .i64 k, .int .i64 n, .string s] 40)) (some ⟨b, 0, none⟩) 1 [⟨k, n, s⟩] := by
  subst hb
  refine ⟨rfl, by simpa using hok, by omega, fun _ => ⟨_, _, rfl, by simp, fun i v hi => ?_⟩⟩
  cases i with
  | zero =>
    simp at hi
    subst hi
    simpa using Box.new w k n s
  | succ i => simp at hi
set_option maxRecDepth 100000 in
theorem OwV.blk {w : World} {S : Nat → Prop} {v : Value} {n : Nat} {vs : List V} (h : OwV w S v n vs) (hn : 0 < n) : ∃ g c, v = .slice (some ⟨g, 0, none⟩) n c ∧ S g ∧ n ≤ c ∧ c ≤ maxLen := by
  obtain ⟨⟨h1, h2⟩, hl, hS⟩ := h
  rcases h2 with ⟨rfl, h0⟩ | ⟨g, cap, cur, rfl, _, hg, hc, hm, _⟩
  · omega
  · exact ⟨g, cap, rfl, hS g rfl, hc, hm⟩
/-- a row of values that grows, of the call that began in w -/
def OwnV (w wr : World) (v : Value) (vs : List V) : Prop := OwV wr (fun b => w.heap.size ≤ b) v vs.length vs ∧ Below w.heap.size w wr
set_option maxRecDepth 100000 in
theorem OwnV.step {w wr w1 : World} {v v' : Value} {n' : Nat} {l l' : List V} (h : OwnV w wr v l) (hgrow : wr.grownBy w1 v.ownBlock) (hn : OwV w1 (fun b => w.heap.size ≤ b ∨ wr.heap.size ≤ b) v' n' l') : OwnV w w1 v' l' := by
  have hs := h.2.size
  have hl := hn.len
  subst hl
  exact ⟨hn.mono fun b _ hb => by omega, h.2.grown hgrow hs fun k hk => h.1.2.2 k hk⟩
set_option maxRecDepth 100000 in
theorem OwnV.alloc {w wr : World} {v : Value} {l : List V} (h : OwnV w wr v l) (o : Obj) : OwnV w (wr.alloc o) v l := ⟨h.1.alloc o, h.2.alloc h.2.size o⟩
set_option maxRecDepth 100000 in
theorem OwnV.nil_at {w wr : World} (h : Below w.heap.size w wr) : OwnV w wr (.slice none 0 0) [] := ⟨OwV.nil_ _ _, h⟩
set_option maxRecDepth 100000 in
theorem OwnV.made (w : World) : OwnV w (w.alloc (.cells #[] 40)) (.slice (some ⟨w.heap.size, 0, none⟩) 0 0) [] := ⟨OwV.made _ _ (Nat.le_refl _), (Below.refl _ _).alloc (Nat.le_refl _) _⟩

/-! ### lent -/
def mark : V := ⟨77, 0, ⟨#[]⟩⟩
/-- a row in memory of its own, with a mark behind it -/
def Lent (w : World) (vs : List V) (g c : Nat) (w' : World) : Prop :=
  vs.length + 1 ≤ c ∧ c ≤ maxLen ∧ RV w' (some ⟨g, 0, none⟩) (vs.length + 1) (vs ++ [mark]) ∧ w.heap.size ≤ g ∧ g < w'.heap.size ∧ Below w.heap.size w w'
set_option maxRecDepth 100000 in
theorem RV.init {w : World} {A : Option Addr} {vs : List V} {x : V} (h : RV w A (vs.length + 1) (vs ++ [x])) : RV w A vs.length vs := by
  obtain ⟨h1, h2, h2', h3⟩ := h
  refine ⟨rfl, fun v hv => h2 v (by simp [hv]), by omega, fun hn => ?_⟩
  obtain ⟨g, o, e, hg, hc⟩ := h3 (by omega)
  refine ⟨g, o, e, hg, fun i v hi => hc i v ?_⟩
  have hil : i < vs.length := by
    rcases Nat.lt_or_ge i vs.length with h | h
    · exact h
    · rw [List.getElem?_eq_none h] at hi; cases hi
  rw [List.getElem?_append_left hil]
  exact hi
set_option maxRecDepth 100000 in
theorem Lent.rv {w w' : World} {vs : List V} {g c : Nat} (h : Lent w vs g c w') : RV w' (some ⟨g, 0, none⟩) vs.length vs := h.2.2.1.init
set_option maxRecDepth 100000 in
theorem mark_ok : VOk mark := ⟨by simp [N64, mark], by simp [mark]; exact Nat.zero_le _⟩
set_option maxRecDepth 100000 in
set_option maxHeartbeats 1000000 in
theorem lent_any (A : Option Addr) (n c : Nat) (vs : List V) (w : World) (h : RV w A n vs) (hb : (n + 1) * 32 ≤ 140737488355328) :
    Calls Try.prog 13 #[.slice A n c] w fun e w' => ∃ g c', e = .returned (.slice (some ⟨g, 0, none⟩) n c') ∧ Lent w vs g c' w' := by
  have hl := h.1
  have HR := Lib.hid (h.below ((Below.refl _ w).alloc (Nat.le_refl _) (.cells #[] 40)))
  have HO := Lib.hid (OwnV.made w)
  clear h
  go_enter Try.func13, Try.ntmps13
  go_wp2_with (first
    | (at_builtin; refine wpList_appV rfl (.tmp 4) (.tmp 5) rfl _ 0 [] rfl HO.out.1 A n c vs rfl HR.out (by omega) ?_; intro v1 w1 hown hgrow; have HS := Lib.hid (OwnV.step HO.out hgrow hown); clear hown hgrow)
    | (at_builtin; go_must (refine wpList_appV rfl (.tmp 7) (.tmp 9) rfl v1 _ ([] ++ vs) rfl (HS.out.alloc _).1 _ 1 1 [mark] rfl (by exact RV.one _ _ _ _ _ (by simp) mark_ok) (by simp; omega) ?_); intro v2 w2 hown hgrow; have HS2 := Lib.hid (OwnV.step (HS.out.alloc _) hgrow hown); have hown2 := HS2.out.1; obtain ⟨g, c2, rfl, hg, hc, hm⟩ := hown2.blk (by simp); have HX := Lib.hid hown2; have hcc : n ≤ c2 := (by simp at hc; omega); clear hown hgrow hown2))
  go_ret
  have ho := HX.out
  simp only [List.nil_append] at ho hc
  have hlen : (vs ++ [mark]).length = vs.length + 1 := by simp
  rw [hlen] at ho hc
  obtain ⟨A3, c3, e, _, _, _, hr⟩ := ho.reads (by omega)
  injection e with e1 e2 e3
  subst e1 e3
  have hb2 := HS2.out.2
  exact ⟨g, c2, rfl, hc, hm, hr, hg, (by obtain ⟨_, _, e, hlt, _⟩ := hr.2.2.2 (by omega); injection e with e; injection e with e; subst e; exact hlt), hb2⟩
/-- are two rows one -/
def eqR : List V → List V → Bool
  | [], [] => true
  | a :: x, b :: y => veq a.k a.n a.s b.k b.n b.s && eqR x y
  | _, _ => false
set_option maxRecDepth 100000 in
theorem veq_v {a b : V} : veq a.k a.n a.s b.k b.n b.s = true ↔ a = b := by
  rw [veq_eq]
  obtain ⟨_, _, _⟩ := a
  obtain ⟨_, _, _⟩ := b
  simp
set_option maxRecDepth 100000 in
theorem eqR_iff (a b : List V) : eqR a b = true ↔ a = b := by
  induction a generalizing b with
  | nil => cases b <;> simp [eqR]
  | cons u a ih =>
    cases b with
    | nil => simp [eqR]
    | cons v b => simp [eqR, ih, veq_v]
set_option maxRecDepth 100000 in
theorem eqR_of_ne {a b : List V} (h : a ≠ b) : eqR a b = false := by
  rw [Bool.eq_false_iff]
  intro e
  exact h ((eqR_iff a b).1 e)
set_option maxRecDepth 100000 in
theorem take_eq_next {xs ys : List V} {k : Nat} {a b : V} (h : xs.take k = ys.take k) (ha : xs[k]? = some a) (hb : ys[k]? = some b) (e : a = b) : xs.take (k + 1) = ys.take (k + 1) := by
  rw [take_next ha, take_next hb, h, e]
set_option maxRecDepth 100000 in
theorem below_fields {B : Nat} {a w w' : World} (h : Below B a w) (h1 : w'.os = w.os) (h2 : w'.tape = w.tape) (h3 : w'.output = w.output) (h4 : w'.heap = w.heap) : Below B a w' :=
  ⟨h1.trans h.os, h2.trans h.tape, h3.trans h.output, by rw [h4]; exact h.size, fun b hb => by rw [h4]; exact h.block b hb⟩

set_option maxRecDepth 100000 in
set_option maxHeartbeats 1000000 in
theorem same_any (A : Option Addr) (n c : Nat) (xs : List V) (B : Option Addr) (m d : Nat) (ys : List V) (w : World) (ha : RV w A n xs) (hb : RV w B m ys) :
    Calls Try.prog 21 #[.slice A n c, .slice B m d] w fun e w' => e = .returned (.bool (eqR xs ys)) ∧ Below w.heap.size w w' := by
  have hla := ha.1
  have hlb := hb.1
  have hna := ha.2.2.1
  have hnb := hb.2.2.1
  have HA := Lib.hid ha
  have HB := Lib.hid hb
  clear ha hb
  by_cases hnm : n = m
  · subst hnm
    have hLA := Lib.hid hla
    have hLB := Lib.hid hlb
    clear hla hlb
    go_enter Try.func21, Try.ntmps21
    go_wp2
    go_loopw [5] (fun i wr => ∃ k : Nat, k ≤ n ∧ i = .int .i64 (k : Int) ∧ xs.take k = ys.take k ∧ Below w.heap.size w wr) (fun i _ => n - (intOf i).toNat)
    case atStart => exact ⟨0, by omega, rfl, rfl, Below.refl _ _⟩
    case round =>
      obtain ⟨k, hk, rfl, htk, hbel⟩ := hrel
      have HT := Lib.hid htk
      have HW := Lib.hid hbel
      clear htk hbel
      by_cases hlt : k < n
      · obtain ⟨g, o, a, rfl, hg, hva, hoa, a0, a1, a2⟩ := (HA.out.below HW.out).at_ hlt
        obtain ⟨g', o', b, rfl, hg', hvb, hob, b0, b1, b2⟩ := (HB.out.below HW.out).at_ hlt
        have HVA := Lib.hid hva
        have HVB := Lib.hid hvb
        have hva' := veq_v (a := a) (b := b)
        obtain ⟨ak, an, AS⟩ := a
        obtain ⟨bk, bn, BS⟩ := b
        simp only at a0 a1 a2 b0 b1 b2 hva'
        clear hva hvb hoa hob hg hg'
        by_cases hv : veq ak an AS bk bn BS = true
        · have HE := Lib.hid (hva'.1 hv)
          clear hva'
          go_wp2_with fail
          go_quiet (fail)
          go_wp2_with fail
          go_roundw
          case rel => exact ⟨k + 1, by omega, by go_num, take_eq_next HT.out HVA.out HVB.out HE.out, below_fields HW.out rfl rfl rfl rfl⟩
          case measure => simp [intOf]; omega
        · have hv' : veq ak an AS bk bn BS = false := by simpa using hv
          have HE := Lib.hid (fun e => hv (hva'.2 e))
          clear hva' hv
          go_wp2_with fail
          go_quiet (fail)
          go_wp2_with fail
          go_ret
          refine ⟨?_, below_fields HW.out rfl rfl rfl rfl⟩
          rw [eqR_of_ne]
          · rfl
          · intro e
            have h1 := HVA.out
            rw [e, HVB.out] at h1
            injection h1 with h1
            exact HE.out h1.symm
      · obtain rfl : k = n := by omega
        have htk := HT.out
        rw [List.take_of_length_le (by rw [hLA.out]; omega), List.take_of_length_le (by rw [hLB.out]; omega)] at htk
        have HTK := Lib.hid htk
        clear htk
        go_wp2
        go_ret
        exact ⟨by rw [(eqR_iff xs ys).2 HTK.out]; rfl, HW.out⟩
  · have he : eqR xs ys = false := eqR_of_ne (fun e => hnm (by rw [← hla, e, hlb]))
    have hnm2 : ((n : Int) == (m : Int)) = false := by simp; omega
    rw [he]
    clear he hla hlb HA HB hnm
    go_enter Try.func21, Try.ntmps21
    go_wp2
    go_ret
    exact ⟨rfl, Below.refl _ _⟩

set_option maxRecDepth 100000 in
theorem RV.take {w : World} {A : Option Addr} {n : Nat} {vs : List V} (h : RV w A n vs) {k : Nat} (hk : k ≤ n) : RV w A k (vs.take k) := by
  obtain ⟨h1, h2, h2', h3⟩ := h
  refine ⟨by simp; omega, fun v hv => h2 v (List.mem_of_mem_take hv), by omega, fun hn => ?_⟩
  obtain ⟨g, o, e, hg, hc⟩ := h3 (by omega)
  refine ⟨g, o, e, hg, fun i v hi => hc i v ?_⟩
  rw [List.getElem?_take] at hi
  split at hi
  · exact hi
  · cases hi
set_option maxRecDepth 100000 in
theorem OwV.keep {w w' : World} {S T : Nat → Prop} {v : Value} {n : Nat} {vs : List V} (h : OwV w S v n vs) (hf : Fr w w' T) (hd : ∀ b, S b → ¬ T b) : OwV w' S v n vs := by
  obtain ⟨⟨h1, h2⟩, h3, h4⟩ := h
  refine ⟨⟨h1, ?_⟩, h3, h4⟩
  rcases h2 with h2 | ⟨g, cap, cur, hv, hg, hh, r⟩
  · exact Or.inl h2
  · exact Or.inr ⟨g, cap, cur, hv, hg, (hf.block g (Blk.lt hh) (hd g (h4 g (by rw [hv]; rfl)))).trans hh, r⟩
set_option maxRecDepth 100000 in
theorem vok_may {v : V} (h : v.may = true) (hn : N64 v) : VOk v := by
  refine ⟨hn, ?_⟩
  obtain ⟨k, n, s⟩ := v
  replace h : may k n s = true := h
  have hk := may_kind h
  have hk4 : k = 0 ∨ k = 1 ∨ k = 2 ∨ k = 3 := by omega
  rcases hk4 with rfl | rfl | rfl | rfl
  · simp [may, seq_eq] at h; rw [h.2]; exact Nat.zero_le _
  · simp [may, seq_eq] at h; rw [h]; exact Nat.zero_le _
  · simp [may] at h; simp only; omega
  · simp [may, seq_eq] at h; rw [h.1]; exact Nat.zero_le _
set_option maxRecDepth 100000 in
theorem RV.of_blk {w : World} {g : Nat} {vs : List V} (h : Blk w g 40 (vcs vs).toArray) (hv : ∀ v ∈ vs, VOk v) (hn : vs.length ≤ 9223372036854775806) : RV w (some ⟨g, 0, none⟩) vs.length vs := by
  refine ⟨rfl, hv, hn, fun _ => ⟨g, 0, rfl, h.lt, fun i v hi => ?_⟩⟩
  obtain ⟨a, b, c⟩ := vcs_at vs i v hi
  rw [Nat.zero_add]
  refine ⟨?_, ?_, ?_⟩
  · rw [h.cell]; simpa using a
  · rw [h.cell]; simpa using b
  · rw [h.cell]; simpa using c
set_option maxRecDepth 100000 in
theorem OwnV.up {w wr w1 : World} {v : Value} {l : List V} (h : OwnV w wr v l) (hb : Below wr.heap.size wr w1) : OwnV w w1 v l := by
  have hs := h.2.size
  refine ⟨?_, below_trans h.2 hb⟩
  obtain ⟨⟨h1, h2⟩, h3, h4⟩ := h.1
  refine ⟨⟨h1, ?_⟩, h3, h4⟩
  rcases h2 with h2 | ⟨g, cap, cur, hv, hg, hh, r⟩
  · exact Or.inl h2
  · exact Or.inr ⟨g, cap, cur, hv, hg, (hb.block g (Blk.lt hh)).trans hh, r⟩
set_option maxRecDepth 100000 in
theorem vcs_set (vs : List V) (j : Nat) (x : V) (h : j < vs.length) : (((vcs vs).set (j * 3) (.int .i64 x.k)).set (j * 3 + 1) (.int .i64 x.n)).set (j * 3 + 2) (.string x.s) = vcs (vs.set j x) := by
  induction vs generalizing j with
  | nil => simp at h
  | cons v r ih =>
    cases j with
    | zero => simp [vcs]
    | succ j =>
      have := ih j (by simpa using h)
      simp only [vcs, show (j + 1) * 3 = j * 3 + 1 + 1 + 1 by omega, show j * 3 + 1 + 1 + 1 + 1 = (j * 3 + 1) + 1 + 1 + 1 by omega, show j * 3 + 1 + 1 + 1 + 2 = (j * 3 + 2) + 1 + 1 + 1 by omega, List.set_cons_succ]
      rw [this]
set_option maxRecDepth 100000 in
theorem slot_at {w : World} {S : Nat → Prop} {v : Value} {n : Nat} {vs : List V} (h : OwV w S v n vs) {j : Nat} (hj : j < n) :
    ∃ g cap, v = .slice (some ⟨g, 0, none⟩) n cap ∧ S g ∧ (∃ a b c, w.cell? ⟨g, j * 3, none⟩ = some a ∧ w.cell? ⟨g, j * 3 + 1, none⟩ = some b ∧ w.cell? ⟨g, j * 3 + 2, none⟩ = some c) ∧
      (w.frozen? ⟨g, j * 3, none⟩ = false ∧ w.frozen? ⟨g, j * 3 + 1, none⟩ = false ∧ w.frozen? ⟨g, j * 3 + 2, none⟩ = false) ∧
      ∀ x : V, VOk x → OwV (((w.setCell ⟨g, j * 3, none⟩ (.int .i64 x.k)).setCell ⟨g, j * 3 + 1, none⟩ (.int .i64 x.n)).setCell ⟨g, j * 3 + 2, none⟩ (.string x.s)) S v n (vs.set j x) := by
  have hln := h.len
  obtain ⟨ho, hl, hS⟩ := h
  rcases ho.2 with ⟨_, h0⟩ | ⟨g, cap, cur, rfl, _, hg, hc, _, hcur, htake⟩
  · omega
  · have hv : vs[j]? = some vs[j] := List.getElem?_eq_getElem (by omega)
    obtain ⟨a, b, c⟩ := vcs_at vs j _ hv
    refine ⟨g, cap, rfl, hS g rfl, ⟨.int .i64 vs[j].k, .int .i64 vs[j].n, .string vs[j].s, ?_, ?_, ?_⟩, ⟨ho.frozenAt _, ho.frozenAt _, ho.frozenAt _⟩, fun x hx => ⟨?_, ?_, hS⟩⟩
    · rw [ho.cellAt _ (by omega)]; exact a
    · rw [ho.cellAt _ (by omega)]; exact b
    · rw [ho.cellAt _ (by omega)]; exact c
    · have h1 := (ho.stored (j * 3) (.int .i64 x.k)).1
      have h2 := (h1.stored (j * 3 + 1) (.int .i64 x.n)).1
      have h3 := (h2.stored (j * 3 + 2) (.string x.s)).1
      rw [vcs_set vs j x (by omega)] at h3
      exact h3
    · intro y hy
      rcases List.mem_or_eq_of_mem_set hy with hy | hy
      · exact hl y hy
      · rw [hy]; exact hx
set_option maxRecDepth 100000 in
theorem row_fr {w w' : World} {S T : Nat → Prop} {A : Option Addr} {n c : Nat} {vs : List V} (h : OwV w S (.slice A n c) n vs) (hf : Fr w w' T) (hd : ∀ b, S b → ¬ T b) (hn : n ≤ 9223372036854775806) : RV w' A n vs := by
  obtain ⟨A', c', e, _, _, _, hr⟩ := (h.keep hf hd).reads hn
  injection e with e1 e2 e3
  subst e1
  exact hr
set_option maxRecDepth 100000 in
theorem OwV.up5 {w w1 : World} {S : Nat → Prop} {v : Value} {n : Nat} {vs : List V} (h : OwV w S v n vs) (hb : Below w.heap.size w w1) : OwV w1 S v n vs :=
  h.keep (Fr.of_below hb (fun _ => False)) (fun _ _ h => h.elim)
end Go.Proofs.Ytiilhnedflmgoaa
