/-
STAGE 8: rows of numbers (uint32).
-/
import Derived.Test.YtcajidlekfkjlaaPWords
namespace Go.Proofs.Ytcajidlekfkjlaa
open Go.RowKit

/-- the bytes as cells -/
def u32s (l : List Nat) : List Value := l.map fun x : Nat => .int .u32 (x : Int)
set_option maxRecDepth 100000 in
theorem u32s_length (l : List Nat) : (u32s l).length = l.length := by simp [u32s]
set_option maxRecDepth 100000 in
theorem u32s_append (l m : List Nat) : u32s (l ++ m) = u32s l ++ u32s m := by simp [u32s]
set_option maxRecDepth 100000 in
theorem u32s_one (l : List Nat) : ∀ u ∈ u32s l, u.oneCell' = true := by
  intro u hu
  simp only [u32s, List.mem_map] at hu
  obtain ⟨x, _, rfl⟩ := hu
  rfl
set_option maxRecDepth 100000 in
theorem u32s_at (l : List Nat) (j : Nat) (h : j < l.length) : (u32s l)[j]? = some (.int .u32 ((l.getD j 0 : Nat) : Int)) := by
  simp [u32s, h]

/-! ### Bytes in memory -/
/-- The slice value '.slice A n c' reads as the bytes l; they lie in one of the blocks of S. -/
def NR (w : World) (S : Nat → Prop) (A : Option Addr) (n : Nat) (l : List Nat) : Prop :=
  l.length = n ∧ (∀ x ∈ l, x < 4294967296) ∧ (0 < n → ∃ ad, A = some ad ∧ ad.block < w.heap.size ∧ S ad.block ∧ ∀ j, j < n → w.cell? (ad.add j) = some (.int .u32 ((l.getD j 0 : Nat) : Int)))
section
variable {w w' : World} {A : Option Addr} {n : Nat} {l : List Nat} {S T : Nat → Prop}
set_option maxRecDepth 100000 in
theorem NR.len (h : NR w S A n l) : l.length = n := h.1
set_option maxRecDepth 100000 in
theorem NR.lt (h : NR w S A n l) : ∀ x ∈ l, x < 4294967296 := h.2.1
set_option maxRecDepth 100000 in
theorem NR.nil_ : NR w S A 0 [] := ⟨rfl, by simp, fun h => absurd h (by omega)⟩
set_option maxRecDepth 100000 in
theorem NR.at_ (h : NR w S A n l) {k : Nat} (hk : k < n) : ∃ ad, A = some ad ∧ l.getD k 0 < 4294967296 ∧ w.cell? (ad.add k) = some (.int .u32 ((l.getD k 0 : Nat) : Int)) := by
  obtain ⟨h1, h2, h3⟩ := h
  obtain ⟨ad, e, _, _, hc⟩ := h3 (by omega)
  refine ⟨ad, e, ?_, hc k hk⟩
  have hl : k < l.length := by omega
  have e2 : l.getD k 0 = l[k] := by simp [hl]
  rw [e2]
  exact h2 _ (List.getElem_mem _)
set_option maxRecDepth 100000 in
theorem NR.move (h : NR w S A n l) (hs : w.heap.size ≤ w'.heap.size) (hk : ∀ p : Addr, p.block < w.heap.size → S p.block → w'.cell? p = w.cell? p) : NR w' S A n l := by
  obtain ⟨h1, h2, h3⟩ := h
  refine ⟨h1, h2, fun hn => ?_⟩
  obtain ⟨ad, e, hb, hS, hc⟩ := h3 hn
  exact ⟨ad, e, by omega, hS, fun j hj => (hk _ (by rw [block_of_add]; exact hb) (by rw [block_of_add]; exact hS)).trans (hc j hj)⟩
set_option maxRecDepth 100000 in
theorem NR.keep (h : NR w S A n l) (hf : Fr w w' T) (hd : ∀ b, S b → ¬ T b) : NR w' S A n l := h.move hf.size fun _ hp hS => World.cell?_of_block (hf.block _ hp (hd _ hS))
set_option maxRecDepth 100000 in
theorem NR.mono (h : NR w S A n l) (hd : ∀ b, b < w.heap.size → S b → T b) : NR w T A n l := by
  obtain ⟨h1, h2, h3⟩ := h
  refine ⟨h1, h2, fun hn => ?_⟩
  obtain ⟨ad, e, hb, hS, hc⟩ := h3 hn
  exact ⟨ad, e, hb, hd _ hb hS, hc⟩
set_option maxRecDepth 100000 in
/-- bytes that were there below B -/
theorem NR.below {B : Nat} (h : NR w S A n l) (hb : Below B w w') (hS : ∀ b, S b → b < B) : NR w' S A n l := h.move hb.size fun _ _ hs => hb.cell (hS _ hs)
set_option maxRecDepth 100000 in
theorem NR.drew (h : NR w S A n l) : NR w.drew S A n l := h
set_option maxRecDepth 100000 in
theorem NR.drewN (h : NR w S A n l) (k : Nat) : NR (w.drewN k) S A n l := h
set_option maxRecDepth 100000 in
theorem NR.alloc (h : NR w S A n l) (o : Obj) : NR (w.alloc o) S A n l := h.move (by simp) fun p hp _ => World.cell?_alloc_lt w o p hp
set_option maxRecDepth 100000 in
theorem NR.far (h : NR w S A n l) {p : Addr} (hp : ¬ S p.block) (u : Value) : NR (w.setCell p u) S A n l :=
  h.move (by simp) fun q _ hS => World.cell?_setCell_other w p q u (fun e => by subst e; exact hp hS)
set_option maxRecDepth 100000 in
/-- the first k bytes -/
theorem NR.take (h : NR w S A n l) {k : Nat} (hk : k ≤ n) : NR w S A k (l.take k) := by
  obtain ⟨h1, h2, h3⟩ := h
  refine ⟨by simp; omega, fun x hx => h2 x (List.mem_of_mem_take hx), fun hn => ?_⟩
  obtain ⟨ad, e, hb, hS, hc⟩ := h3 (by omega)
  refine ⟨ad, e, hb, hS, fun j hj => ?_⟩
  rw [hc j (by omega)]
  simp [hj]
set_option maxRecDepth 100000 in
/-- from byte k on -/
theorem NR.drop (h : NR w S A n l) {k c : Nat} (hk : k ≤ n) (hc : n ≤ c) : NR w S (if c = k then A else A.map (·.add k)) (n - k) (l.drop k) := by
  obtain ⟨h1, h2, h3⟩ := h
  refine ⟨by simp; omega, fun x hx => h2 x (List.mem_of_mem_drop hx), fun hn => ?_⟩
  obtain ⟨ad, rfl, hb, hS, hcell⟩ := h3 (by omega)
  rw [if_neg (by omega)]
  refine ⟨ad.add k, rfl, by rw [block_of_add]; exact hb, by rw [block_of_add]; exact hS, fun j hj => ?_⟩
  rw [add_of_add, hcell _ (by omega)]
  simp
set_option maxRecDepth 100000 in
theorem NR.of_blk {g : Nat} (h : Blk w g 23 (u32s l).toArray) (hS : S g) (hl : ∀ x ∈ l, x < 4294967296) (hn : l.length = n) : NR w S (some ⟨g, 0, none⟩) n l := by
  refine ⟨hn, hl, fun _ => ⟨_, rfl, h.lt, hS, fun j hj => ?_⟩⟩
  rw [add_head, h.cell j]
  subst hn
  simp [u32s, hj]
set_option maxRecDepth 100000 in
theorem NR.cells {ad : Addr} (h : NR w S (some ad) n l) : ∀ j u, (u32s l)[j]? = some u → w.cell? (ad.add j) = some u := by
  obtain ⟨h1, h2, h3⟩ := h
  intro j u hj
  have hjl : j < l.length := by
    rcases Nat.lt_or_ge j l.length with h | h
    · exact h
    · simp [u32s, List.getElem?_eq_none h] at hj
  obtain ⟨ad', e, _, _, hc⟩ := h3 (by omega)
  cases e
  rw [hc j (by omega)]
  rw [u32s_at l j hjl] at hj
  exact hj
end

/-! ### A row of the call's own -/
/-- v is a slice of n bytes, the row of l; its block, if it has one, is one of S. -/
def OwN (w : World) (S : Nat → Prop) (v : Value) (n : Nat) (l : List Nat) : Prop :=
  w.ownsRow 0 23 1 v n (u32s l) ∧ (∀ x ∈ l, x < 4294967296) ∧ ∀ k, v.ownBlock = some k → S k
section
variable {w w' : World} {v : Value} {n : Nat} {l : List Nat} {S T : Nat → Prop}
set_option maxRecDepth 100000 in
theorem OwN.len (h : OwN w S v n l) : l.length = n := by simpa [u32s] using h.1.1
set_option maxRecDepth 100000 in
theorem OwN.nil_ (w : World) (S : Nat → Prop) : OwN w S (.slice none 0 0) 0 [] := ⟨World.ownsRow_nil w 0 23 1, by simp, fun k hk => by simp [Value.ownBlock] at hk⟩
set_option maxRecDepth 100000 in
theorem OwN.made (w : World) (S : Nat → Prop) (hS : S w.heap.size) : OwN (w.alloc (.cells #[] 23)) S (.slice (some ⟨w.heap.size, 0, none⟩) 0 0) 0 [] :=
  ⟨World.ownsRow_made (e := 23) (size := 1) w #[] 0 (Nat.zero_le _) (by simp [maxLen]) (by simp), by simp, fun k hk => by simp [Value.ownBlock] at hk; subst hk; exact hS⟩
set_option maxRecDepth 100000 in
theorem OwN.mono (h : OwN w S v n l) (hd : ∀ b, b < w.heap.size → S b → T b) : OwN w T v n l := ⟨h.1, h.2.1, fun k hk => hd k (h.1.lt k hk).2 (h.2.2 k hk)⟩
set_option maxRecDepth 100000 in
theorem OwN.keep (h : OwN w S v n l) (hf : Fr w w' T) (hd : ∀ b, S b → ¬ T b) : OwN w' S v n l := by
  obtain ⟨⟨h1, h2⟩, h3, h4⟩ := h
  refine ⟨⟨h1, ?_⟩, h3, h4⟩
  rcases h2 with h2 | ⟨g, cap, cur, hv, hg, hh, r⟩
  · exact Or.inl h2
  · exact Or.inr ⟨g, cap, cur, hv, hg, (hf.block g (Blk.lt hh) (hd g (h4 g (by rw [hv]; rfl)))).trans hh, r⟩
set_option maxRecDepth 100000 in
theorem OwN.drew (h : OwN w S v n l) : OwN w.drew S v n l := h
set_option maxRecDepth 100000 in
theorem OwN.drewN (h : OwN w S v n l) (k : Nat) : OwN (w.drewN k) S v n l := h
set_option maxRecDepth 100000 in
theorem OwN.alloc (h : OwN w S v n l) (o : Obj) : OwN (w.alloc o) S v n l := ⟨h.1.alloc o, h.2.1, h.2.2⟩
set_option maxRecDepth 100000 in
/-- a store into a block of another type -/
theorem OwN.far (h : OwN w S v n l) {g i : Nat} {t : TypeId} {cs : Array Value} (hg : Blk w g t cs) (ht : (23 : TypeId) ≠ t) (u : Value) : OwN (w.setCell ⟨g, i, none⟩ u) S v n l := by
  have hne := hg.own_ne h.1 ht
  obtain ⟨⟨h1, h2⟩, h3, h4⟩ := h
  refine ⟨⟨h1, ?_⟩, h3, h4⟩
  rcases h2 with h2 | ⟨g', cap, cur, rfl, hb, hh, r⟩
  · exact Or.inl h2
  · refine Or.inr ⟨g', cap, cur, rfl, hb, (Below.heap_setCell w _ u g' ?_).trans hh, r⟩
    rintro rfl
    exact hne rfl
set_option maxRecDepth 100000 in
theorem OwN.reads (h : OwN w S v n l) : ∃ A c, v = .slice A n c ∧ n ≤ c ∧ (A = none → c = 0) ∧ NR w S A n l := by
  obtain ⟨⟨h1, h2⟩, hl, hS⟩ := h
  have hn : l.length = n := by simpa [u32s] using h1
  rcases h2 with ⟨rfl, h0⟩ | ⟨g, cap, cur, rfl, _, hg, hc, _, hcur, htake⟩
  · subst h0
    have : l = [] := List.eq_nil_of_length_eq_zero hn
    subst this
    exact ⟨none, 0, rfl, Nat.le_refl _, fun _ => rfl, NR.nil_⟩
  · refine ⟨_, _, rfl, hc, (fun e => by cases e), hn, hl, fun _ => ⟨_, rfl, Blk.lt hg, hS g rfl, fun j hj => ?_⟩⟩
    rw [add_head, Blk.cell hg j]
    have hj2 := u32s_at l j (by omega)
    rw [← htake, List.getElem?_take_of_lt (by omega)] at hj2
    simpa using hj2
end

set_option maxRecDepth 100000 in
theorem info23 : (Try.prog.info? 23).map (fun i => (i.zero, i.size, i.bytes)) = some (some (.int .u32 0), 1, 4) := by kernel_rfl

/-! ### append onto a row of the call's own -/
section
variable {w : World} {S : Nat → Prop}
set_option maxRecDepth 100000 in
/-- of bytes that a slice reads as, nil let in -/
theorem run_appN (ty : TypeId) (v : Value) (n : Nat) (l : List Nat) (h : OwN w S v n l) (T : Nat → Prop) (A : Option Addr) (m c : Nat) (k : List Nat) (hr : NR w T A m k) (hb : n + m ≤ 35184372087808) :
    ∃ v' w', (Builtin.append_ #[30, 30] ty #[v, .slice A m c]).run Try.prog w = .ok v' w' ∧ OwN w' (fun b => S b ∨ w.heap.size ≤ b) v' (n + m) (l ++ k) ∧ w.grownBy w' v.ownBlock := by
  obtain ⟨i0, hi, hz0, hz1, hz2⟩ := info_parts info23
  have hlt : ∀ x ∈ l ++ k, x < 4294967296 := by
    intro x hx
    rcases List.mem_append.1 hx with hx | hx
    · exact h.2.1 x hx
    · exact hr.lt x hx
  rcases A with _ | ad
  · have hm : m = 0 := by
      rcases Nat.eq_zero_or_pos m with h0 | h0
      · exact h0
      · obtain ⟨_, e, _⟩ := hr.2.2 h0
        cases e
    subst hm
    have hk : k = [] := List.eq_nil_of_length_eq_zero hr.1
    subst hk
    refine ⟨v, w, ?_, by simpa using h.mono fun b _ hS => Or.inl hS, World.grownBy.refl w _⟩
    rcases h.1.2 with ⟨rfl, rfl⟩ | ⟨g, cap, cur, rfl, _, _, hnc, _⟩
    · simp [Builtin.append_, run_underlying Try.underlying30, sizeOf, typeInfo, hi, Builtin.lenOf, Builtin.firstCells]
    · simp [Builtin.append_, run_underlying Try.underlying30, sizeOf, typeInfo, hi, Builtin.lenOf, Builtin.firstCells, hnc, storeCells]
  · obtain ⟨v', w', h1, h2, h3, _, h5⟩ := run_append_own_at (P := Try.prog) w 0 30 ty 23 i0 (.int .u32 0) 1 4 Try.underlying30 hi hz0 hz1 hz2 rfl (by decide) v n (u32s l) h.1 ad m c (u32s k)
      (by rw [u32s_length, hr.len, Nat.mul_one]) hr.cells (u32s_one k) (by simp only [maxLen]; omega) (by omega) (Nat.zero_le _)
    rw [← u32s_append] at h2
    refine ⟨v', w', h1, ⟨h2, hlt, fun q hq => ?_⟩, h3⟩
    rcases h5 with h5 | h5
    · exact Or.inl (h.2.2 q (by rw [← h5]; exact hq))
    · rw [h5] at hq
      injection hq with hq
      exact Or.inr (by omega)
set_option maxRecDepth 100000 in
/-- of one byte, that lies in a block of its own -/
theorem one_rbN (w : World) (x : Nat) (hx : x < 4294967296) (T : Nat → Prop) (hT : T w.heap.size) : NR (w.alloc (.cells #[.int .u32 (x : Int)] 23)) T (some ⟨w.heap.size, 0, none⟩) 1 [x] :=
  NR.of_blk (l := [x]) (Blk.new w 23 _) hT (by simpa using hx) rfl

variable {ops : Array Oper} {rest : List Oper} {o : Oper} {a : Act} {Q : Exit → Act → World → Prop}
set_option maxRecDepth 100000 in
theorem wp_appN {K : Act → World → Prop} (s x : Operand) (ho : o.op = .call { callee := .builtin .append, args := #[s, x], argTypes := #[30, 30] })
    (v : Value) (n : Nat) (l : List Nat) (hs : a.eval s = v) (h : OwN w S v n l) (T : Nat → Prop) (A : Option Addr) (m c : Nat) (k : List Nat) (hx : a.eval x = .slice A m c) (hr : NR w T A m k) (hb : n + m ≤ 35184372087808)
    (hK : ∀ v' w', OwN w' (fun b => S b ∨ w.heap.size ≤ b) v' (n + m) (l ++ k) → w.grownBy w' v.ownBlock → K (a.put o.dst v') w') : o.wp Try.prog a w K Q := by
  obtain ⟨v', w', hrun, h2, h3⟩ := run_appN o.type v n l h T A m c k hr hb
  unfold Oper.wp execOp
  simp only [ho, resolve, invoke, builtin, Sem.run_bind, Sem.run_pure, Result.andThen_ok, List.map_toArray, List.map_cons, List.map_nil, hs, hx, hrun]
  exact hK v' w' h2 h3
set_option maxRecDepth 100000 in
theorem wpList_appN (hgd : o.guard = none) (s x : Operand) (ho : o.op = .call { callee := .builtin .append, args := #[s, x], argTypes := #[30, 30] })
    (v : Value) (n : Nat) (l : List Nat) (hs : a.eval s = v) (h : OwN w S v n l) (T : Nat → Prop) (A : Option Addr) (m c : Nat) (k : List Nat) (hx : a.eval x = .slice A m c) (hr : NR w T A m k) (hb : n + m ≤ 35184372087808)
    (hK : ∀ v' w', OwN w' (fun b => S b ∨ w.heap.size ≤ b) v' (n + m) (l ++ k) → w.grownBy w' v.ownBlock → wpList Try.prog ops Q rest (a.put o.dst v') w') : wpList Try.prog ops Q (o :: rest) a w :=
  wpList_plain hgd fun _ hk => wp_appN s x ho v n l hs h T A m c k hx hr hb fun v' w' h2 h3 => hk _ _ (hK v' w' h2 h3)
set_option maxRecDepth 100000 in
theorem step_appN {K : Act → World → Prop} {E : Prop} (hgd : o.guard = none) (s x : Operand) (ho : o.op = .call { callee := .builtin .append, args := #[s, x], argTypes := #[30, 30] })
    (v : Value) (n : Nat) (l : List Nat) (hs : a.eval s = v) (h : OwN w S v n l) (T : Nat → Prop) (A : Option Addr) (m c : Nat) (k : List Nat) (hx : a.eval x = .slice A m c) (hr : NR w T A m k) (hb : n + m ≤ 35184372087808)
    (hK : ∀ v' w', OwN w' (fun b => S b ∨ w.heap.size ≤ b) v' (n + m) (l ++ k) → w.grownBy w' v.ownBlock → K (a.put o.dst v') w') : if Region.wanted o (yielded ops a.tmps) = true then Oper.wp Try.prog o a w K Q else E := by
  have hw : Region.wanted o (yielded ops a.tmps) = true := by simp [Region.wanted, hgd]
  rw [if_pos hw]
  exact wp_appN s x ho v n l hs h T A m c k hx hr hb hK


end
end Go.Proofs.Ytcajidlekfkjlaa
