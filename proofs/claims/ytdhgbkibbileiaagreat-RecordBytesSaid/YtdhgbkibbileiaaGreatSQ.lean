/-
  ROWS OF RECORDS: those that come in, those of one's own.
  Decode AS FACTS: of any bytes, of a record's, of a beginning of them.
-/
import Derived.Test.YtdhgbkibbileiaaGreatSE
import Derived.Test.YtdhgbkibbileiaaGreatRQ
import Derived.Test.YtdhgbkibbileiaaGreatSO
import Derived.Test.YtdhgbkibbileiaaGreatSD
namespace Go.Proofs.YtdhgbkibbileiaaGreat
open Go.ChangeShapes Go.WideShapes Go.ChangeAt Go.RowKit

/-- a slice of RVs reads as l, its block in S -/
def RVR (w : World) (S : Nat → Prop) (A : Option Addr) (n : Nat) (l : List RV) : Prop :=
  l.length = n ∧ (∀ x ∈ l, x.In w S) ∧ n ≤ 9223372036854775807 ∧ (0 < n → ∃ g o, A = some ⟨g, o, none⟩ ∧ g < w.heap.size ∧ S g ∧ ∀ i x, l[i]? = some x → w.cell? ⟨g, o + i * 15, none⟩ = some (.int .i64 x.k) ∧ w.cell? ⟨g, o + i * 15 + 1, none⟩ = some (.int .u64 (x.s : Int)) ∧ w.cell? ⟨g, o + i * 15 + 2, none⟩ = some (.int .u32 (x.t : Int)) ∧ w.cell? ⟨g, o + i * 15 + 3, none⟩ = some (.int .u64 (x.a : Int)) ∧ w.cell? ⟨g, o + i * 15 + 4, none⟩ = some (.int .u64 (x.b : Int)) ∧ w.cell? ⟨g, o + i * 15 + 5, none⟩ = some (.int .u32 (x.pg : Int)) ∧ w.cell? ⟨g, o + i * 15 + 6, none⟩ = some (.int .u32 (x.rt : Int)) ∧ w.cell? ⟨g, o + i * 15 + 7, none⟩ = some (.int .i64 x.o.k) ∧ w.cell? ⟨g, o + i * 15 + 8, none⟩ = some (.int .i64 x.o.s) ∧ w.cell? ⟨g, o + i * 15 + 9, none⟩ = some (.int .u32 (x.o.t : Int)) ∧ w.cell? ⟨g, o + i * 15 + 10, none⟩ = some (.slice x.o.A x.o.m x.o.c) ∧ w.cell? ⟨g, o + i * 15 + 11, none⟩ = some (.slice x.iA x.im x.ic) ∧ w.cell? ⟨g, o + i * 15 + 12, none⟩ = some (.slice x.lA x.lm x.lc) ∧ w.cell? ⟨g, o + i * 15 + 13, none⟩ = some (.slice x.dA x.dm x.dc) ∧ w.cell? ⟨g, o + i * 15 + 14, none⟩ = some (.int .u32 (x.nx : Int)))
theorem RVR.keep {w w' : World} {S U : Nat → Prop} {A : Option Addr} {n : Nat} {l : List RV} (h : RVR w S A n l) (hf : Fr w w' U) (hS : ∀ b, S b → ¬ U b) : RVR w' S A n l := by
  obtain ⟨h1, h2, h3, h4⟩ := h
  refine ⟨h1, fun x hx => (h2 x hx).keep hf hS, h3, fun hn => ?_⟩
  obtain ⟨g, o, e, hg, hs, hc⟩ := h4 hn
  refine ⟨g, o, e, Nat.lt_of_lt_of_le hg hf.size, hs, fun i x hi => ?_⟩
  have hb := hf.block g hg (hS g hs)
  obtain ⟨k0, k1, k2, k3, k4, k5, k6, k7, k8, k9, k10, k11, k12, k13, k14⟩ := hc i x hi
  exact ⟨(World.cell?_of_block hb).trans k0, (World.cell?_of_block hb).trans k1, (World.cell?_of_block hb).trans k2, (World.cell?_of_block hb).trans k3, (World.cell?_of_block hb).trans k4, (World.cell?_of_block hb).trans k5, (World.cell?_of_block hb).trans k6, (World.cell?_of_block hb).trans k7, (World.cell?_of_block hb).trans k8, (World.cell?_of_block hb).trans k9, (World.cell?_of_block hb).trans k10, (World.cell?_of_block hb).trans k11, (World.cell?_of_block hb).trans k12, (World.cell?_of_block hb).trans k13, (World.cell?_of_block hb).trans k14⟩
theorem RVR.mono {w : World} {S S' : Nat → Prop} {A : Option Addr} {n : Nat} {l : List RV} (h : RVR w S A n l) (hS : ∀ b, b < w.heap.size → S b → S' b) : RVR w S' A n l := by
  obtain ⟨h1, h2, h3, h4⟩ := h
  refine ⟨h1, fun x hx => (h2 x hx).mono hS, h3, fun hn => ?_⟩
  obtain ⟨g, o, e, hg, hs, hc⟩ := h4 hn
  exact ⟨g, o, e, hg, hS g hg hs, hc⟩
theorem RVR.at_ {w : World} {S : Nat → Prop} {A : Option Addr} {n : Nat} {l : List RV} (h : RVR w S A n l) {i : Nat} (hi : i < n) : ∃ g o x, A = some ⟨g, o, none⟩ ∧ g < w.heap.size ∧ S g ∧ l[i]? = some x ∧ x.In w S ∧
    w.cell? ⟨g, o + i * 15, none⟩ = some (.int .i64 x.k) ∧ w.cell? ⟨g, o + i * 15 + 1, none⟩ = some (.int .u64 (x.s : Int)) ∧ w.cell? ⟨g, o + i * 15 + 2, none⟩ = some (.int .u32 (x.t : Int)) ∧ w.cell? ⟨g, o + i * 15 + 3, none⟩ = some (.int .u64 (x.a : Int)) ∧ w.cell? ⟨g, o + i * 15 + 4, none⟩ = some (.int .u64 (x.b : Int)) ∧ w.cell? ⟨g, o + i * 15 + 5, none⟩ = some (.int .u32 (x.pg : Int)) ∧ w.cell? ⟨g, o + i * 15 + 6, none⟩ = some (.int .u32 (x.rt : Int)) ∧ w.cell? ⟨g, o + i * 15 + 7, none⟩ = some (.int .i64 x.o.k) ∧ w.cell? ⟨g, o + i * 15 + 8, none⟩ = some (.int .i64 x.o.s) ∧ w.cell? ⟨g, o + i * 15 + 9, none⟩ = some (.int .u32 (x.o.t : Int)) ∧ w.cell? ⟨g, o + i * 15 + 10, none⟩ = some (.slice x.o.A x.o.m x.o.c) ∧ w.cell? ⟨g, o + i * 15 + 11, none⟩ = some (.slice x.iA x.im x.ic) ∧ w.cell? ⟨g, o + i * 15 + 12, none⟩ = some (.slice x.lA x.lm x.lc) ∧ w.cell? ⟨g, o + i * 15 + 13, none⟩ = some (.slice x.dA x.dm x.dc) ∧ w.cell? ⟨g, o + i * 15 + 14, none⟩ = some (.int .u32 (x.nx : Int)) := by
  obtain ⟨h1, h2, _, h4⟩ := h
  obtain ⟨g, o, e, hg, hs, hc⟩ := h4 (by omega)
  have hl : l[i]? = some l[i] := List.getElem?_eq_getElem (by omega)
  exact ⟨g, o, l[i], e, hg, hs, hl, h2 _ (List.getElem_mem _), hc i _ hl⟩

theorem flat_at {α β : Type} (f : α → List β) (k : Nat) (xs : List α) (h : ∀ x ∈ xs, (f x).length = k) (i : Nat) (x : α) (hx : xs[i]? = some x) (j : Nat) (hj : j < k) : (xs.flatMap f)[i * k + j]? = (f x)[j]? := by
  induction xs generalizing i with
  | nil => simp at hx
  | cons y r ih =>
    have hy := h y List.mem_cons_self
    rw [List.flatMap_cons]
    cases i with
    | zero =>
      simp at hx
      subst hx
      rw [List.getElem?_append_left (by omega)]
      congr 1
      omega
    | succ i =>
      have e : (i + 1) * k = i * k + k := Nat.succ_mul i k
      rw [List.getElem?_append_right (by omega), hy]
      have := ih (fun x hx => h x (List.mem_cons_of_mem _ hx)) i (by simpa using hx)
      rw [← this]
      congr 1
      omega
def rvs (l : List RV) : List Value := l.flatMap fun v => (rcs v).toList
theorem rvs_len (vs : List RV) : (rvs vs).length = vs.length * 15 := by
  induction vs with
  | nil => rfl
  | cons v r ih =>
    have h15 : (rcs v).toList.length = 15 := rfl
    unfold rvs at ih ⊢
    rw [List.flatMap_cons, List.length_append, List.length_cons, ih, h15]
    omega
theorem rvs_append (a b : List RV) : rvs (a ++ b) = rvs a ++ rvs b := by unfold rvs; exact List.flatMap_append
theorem rvs_one (vs : List RV) : ∀ u ∈ rvs vs, u.oneCell' = true := by
  intro u hu
  unfold rvs at hu
  obtain ⟨v, _, hv⟩ := List.mem_flatMap.1 hu
  unfold rcs at hv
  simp only [List.mem_cons, List.not_mem_nil, or_false] at hv
  rcases hv with rfl | rfl | rfl | rfl | rfl | rfl | rfl | rfl | rfl | rfl | rfl | rfl | rfl | rfl | rfl <;> rfl
theorem rvs_at (vs : List RV) (i : Nat) (v : RV) (h : vs[i]? = some v) : (rvs vs)[i * 15]? = some (.int .i64 v.k) ∧ (rvs vs)[i * 15 + 1]? = some (.int .u64 (v.s : Int)) ∧ (rvs vs)[i * 15 + 2]? = some (.int .u32 (v.t : Int)) ∧ (rvs vs)[i * 15 + 3]? = some (.int .u64 (v.a : Int)) ∧ (rvs vs)[i * 15 + 4]? = some (.int .u64 (v.b : Int)) ∧ (rvs vs)[i * 15 + 5]? = some (.int .u32 (v.pg : Int)) ∧ (rvs vs)[i * 15 + 6]? = some (.int .u32 (v.rt : Int)) ∧ (rvs vs)[i * 15 + 7]? = some (.int .i64 v.o.k) ∧ (rvs vs)[i * 15 + 8]? = some (.int .i64 v.o.s) ∧ (rvs vs)[i * 15 + 9]? = some (.int .u32 (v.o.t : Int)) ∧ (rvs vs)[i * 15 + 10]? = some (.slice v.o.A v.o.m v.o.c) ∧ (rvs vs)[i * 15 + 11]? = some (.slice v.iA v.im v.ic) ∧ (rvs vs)[i * 15 + 12]? = some (.slice v.lA v.lm v.lc) ∧ (rvs vs)[i * 15 + 13]? = some (.slice v.dA v.dm v.dc) ∧ (rvs vs)[i * 15 + 14]? = some (.int .u32 (v.nx : Int)) := by
  have key := fun j (hj : j < 15) => flat_at (fun v => (rcs v).toList) 15 vs (fun _ _ => rfl) i v h j hj
  exact ⟨key 0 (by decide), key 1 (by decide), key 2 (by decide), key 3 (by decide), key 4 (by decide), key 5 (by decide), key 6 (by decide), key 7 (by decide), key 8 (by decide), key 9 (by decide), key 10 (by decide), key 11 (by decide), key 12 (by decide), key 13 (by decide), key 14 (by decide)⟩
/-- v is a slice of n items, the row of l; its block, if it has one, is one of S; what the items have lies in T, and not in that block. -/
def OwRV (w : World) (S T : Nat → Prop) (v : Value) (n : Nat) (l : List RV) : Prop :=
  w.ownsRow 0 31 15 v n (rvs l) ∧ (∀ x ∈ l, x.In w T) ∧ (∀ k, v.ownBlock = some k → S k) ∧ ∀ k, v.ownBlock = some k → ¬ T k
section
variable {w w' : World} {v : Value} {n : Nat} {l : List RV} {S T S' T' U : Nat → Prop}
set_option maxHeartbeats 2000000 in
set_option maxRecDepth 100000 in
theorem OwRV.len (h : OwRV w S T v n l) : l.length = n := by
  have := h.1.1
  rw [rvs_len] at this
  omega
set_option maxHeartbeats 2000000 in
set_option maxRecDepth 100000 in
theorem OwRV.nil_ (w : World) (S T : Nat → Prop) : OwRV w S T (.slice none 0 0) 0 [] := ⟨World.ownsRow_nil w 0 31 15, by simp, fun k hk => by simp [Value.ownBlock] at hk, fun k hk => by simp [Value.ownBlock] at hk⟩
set_option maxHeartbeats 2000000 in
set_option maxRecDepth 100000 in
theorem OwRV.mono (h : OwRV w S T v n l) (hS : ∀ b, b < w.heap.size → S b → S' b) (hT : ∀ b, b < w.heap.size → T b → T' b) (hn : ∀ k, v.ownBlock = some k → ¬ T' k) : OwRV w S' T' v n l :=
  ⟨h.1, fun x hx => (h.2.1 x hx).mono hT, fun k hk => hS k (h.1.lt k hk).2 (h.2.2.1 k hk), hn⟩
set_option maxHeartbeats 2000000 in
set_option maxRecDepth 100000 in
theorem OwRV.keep (h : OwRV w S T v n l) (hf : Fr w w' U) (hS : ∀ b, S b → ¬ U b) (hT : ∀ b, T b → ¬ U b) : OwRV w' S T v n l := by
  obtain ⟨⟨h1, h2⟩, h3, h4, h5⟩ := h
  refine ⟨⟨h1, ?_⟩, fun x hx => (h3 x hx).keep hf hT, h4, h5⟩
  rcases h2 with h2 | ⟨g, cap, cur, hv, hg, hh, r⟩
  · exact Or.inl h2
  · exact Or.inr ⟨g, cap, cur, hv, hg, (hf.block g (Blk.lt hh) (hS g (h4 g (by rw [hv]; rfl)))).trans hh, r⟩
set_option maxHeartbeats 2000000 in
set_option maxRecDepth 100000 in
theorem OwRV.fr (h : OwRV w S T v n l) (hf : Fr w w' No) : OwRV w' S T v n l := h.keep hf (fun _ _ hn => hn) fun _ _ hn => hn
set_option maxHeartbeats 2000000 in
set_option maxRecDepth 100000 in
theorem OwRV.alloc (h : OwRV w S T v n l) (o : Obj) : OwRV (w.alloc o) S T v n l := h.fr ((Fr.refl w No).alloc o)
set_option maxHeartbeats 2000000 in
set_option maxRecDepth 100000 in
theorem OwRV.reads (h : OwRV w S T v n l) (hn : n ≤ 140737488351232) : ∃ A c, v = .slice A n c ∧ n ≤ c ∧ c ≤ maxLen ∧ (A = none → c = 0) ∧ RVR w (fun b => S b ∨ T b) A n l := by
  have hlen := h.len
  obtain ⟨⟨h1, h2⟩, hl, hS, _⟩ := h
  have hl' : ∀ x ∈ l, x.In w (fun b => S b ∨ T b) := fun x hx => (hl x hx).mono fun b _ hb => Or.inr hb
  rcases h2 with ⟨rfl, h0⟩ | ⟨g, cap, cur, rfl, _, hg, hc, hm, hcur, htake⟩
  · subst h0
    exact ⟨none, 0, rfl, Nat.le_refl _, Nat.zero_le _, fun _ => rfl, hlen, hl', by omega, fun h => absurd h (by omega)⟩
  · refine ⟨_, _, rfl, hc, hm, (fun e => by cases e), hlen, hl', by omega, fun _ => ⟨g, 0, rfl, Blk.lt hg, Or.inl (hS g rfl), fun i x hi => ?_⟩⟩
    obtain ⟨a0, a1, a2, a3, a4, a5, a6, a7, a8, a9, a10, a11, a12, a13, a14⟩ := rvs_at l i x hi
    have hil : i < l.length := by
      rcases Nat.lt_or_ge i l.length with h | h
      · exact h
      · rw [List.getElem?_eq_none h] at hi; cases hi
    have key : ∀ j u, j < n * 15 → (rvs l)[j]? = some u → w.cell? ⟨g, j, none⟩ = some u := by
      intro j u hj hu
      rw [Blk.cell hg j]
      rw [← htake, List.getElem?_take_of_lt hj] at hu
      simpa using hu
    rw [Nat.zero_add]
    exact ⟨key _ _ (by omega) a0, key _ _ (by omega) a1, key _ _ (by omega) a2, key _ _ (by omega) a3, key _ _ (by omega) a4, key _ _ (by omega) a5, key _ _ (by omega) a6, key _ _ (by omega) a7, key _ _ (by omega) a8, key _ _ (by omega) a9, key _ _ (by omega) a10, key _ _ (by omega) a11, key _ _ (by omega) a12, key _ _ (by omega) a13, key _ _ (by omega) a14⟩
end
set_option maxHeartbeats 2000000 in
set_option maxRecDepth 100000 in
theorem infoRV : (Tryz.prog.info? 31).map (fun i => (i.zero, i.size, i.bytes)) = some (some (.agg #[.int .i64 0, .int .u64 0, .int .u32 0, .int .u64 0, .int .u64 0, .int .u32 0, .int .u32 0, .int .i64 0, .int .i64 0, .int .u32 0, .slice none 0 0, .slice none 0 0, .slice none 0 0, .slice none 0 0, .int .u32 0]), 15, 176) := by kernel_rfl
section
variable {w : World} {S T : Nat → Prop}
set_option maxHeartbeats 2000000 in
set_option maxRecDepth 100000 in
theorem run_appRV (ty : TypeId) (v : Value) (n : Nat) (l : List RV) (h : OwRV w S T v n l) (g c : Nat) (x : RV) (hx : Blk w g 31 #[.int .i64 x.k, .int .u64 (x.s : Int), .int .u32 (x.t : Int), .int .u64 (x.a : Int), .int .u64 (x.b : Int), .int .u32 (x.pg : Int), .int .u32 (x.rt : Int), .int .i64 x.o.k, .int .i64 x.o.s, .int .u32 (x.o.t : Int), .slice x.o.A x.o.m x.o.c, .slice x.iA x.im x.ic, .slice x.lA x.lm x.lc, .slice x.dA x.dm x.dc, .int .u32 (x.nx : Int)]) (hxi : x.In w T) (hb : (n + 1) * 176 ≤ 140737488355328) :
    ∃ v' w', (Builtin.append_ #[47, 47] ty #[v, .slice (some ⟨g, 0, none⟩) 1 c]).run Tryz.prog w = .ok v' w' ∧ OwRV w' (fun b => S b ∨ w.heap.size ≤ b) (fun b => T b ∧ b < w.heap.size) v' (n + 1) (l ++ [x]) ∧ w.grownBy w' v.ownBlock := by
  obtain ⟨i0, hi, hz0, hz1, hz2⟩ := info_parts infoRV
  have hin : ∀ w', w.grownBy w' v.ownBlock → ∀ y ∈ l ++ [x], y.In w' (fun b => T b ∧ b < w.heap.size) := by
    intro w' hg y hy
    have hyi : y.In w T := by
      rcases List.mem_append.1 hy with hy | hy
      · exact h.2.1 y hy
      · rw [List.mem_singleton] at hy; subst hy; exact hxi
    have hf : Fr w w' (fun b => v.ownBlock = some b) := (Fr.refl w _).grown hg fun k hk => Or.inl hk
    exact (hyi.mono (T' := fun b => T b ∧ b < w.heap.size) fun b hlt hb => ⟨hb, hlt⟩).keep hf fun b hb hk => h.2.2.2 b hk hb.1
  have hcells : ∀ j u, (rvs [x])[j]? = some u → w.cell? ((⟨g, 0, none⟩ : Addr).add j) = some u := by
    intro j u hu
    rw [add_head, hx.cell j]
    simpa [rvs, rcs] using hu
  obtain ⟨v', w', h1, h2, h3, _, h5⟩ := run_append_own_at (P := Tryz.prog) w 0 47 ty 31 i0 (.agg #[.int .i64 0, .int .u64 0, .int .u32 0, .int .u64 0, .int .u64 0, .int .u32 0, .int .u32 0, .int .i64 0, .int .i64 0, .int .u32 0, .slice none 0 0, .slice none 0 0, .slice none 0 0, .slice none 0 0, .int .u32 0]) 15 176 Tryz.underlying47 hi hz0 hz1 hz2 (by decide) (by decide) v n (rvs l) h.1 ⟨g, 0, none⟩ 1 c (rvs [x])
    (by rw [rvs_len]; rfl) hcells (rvs_one [x]) (by simp only [maxLen]; omega) hb (Nat.zero_le _)
  rw [← rvs_append] at h2
  refine ⟨v', w', h1, ⟨h2, hin w' h3, fun q hq => ?_, fun q hq hT => ?_⟩, h3⟩
  · rcases h5 with h5 | h5
    · exact Or.inl (h.2.2.1 q (by rw [← h5]; exact hq))
    · rw [h5] at hq
      injection hq with hq
      exact Or.inr (by omega)
  · rcases h5 with h5 | h5
    · exact h.2.2.2 q (by rw [← h5]; exact hq) hT.1
    · rw [h5] at hq
      injection hq with hq
      have := hT.2
      omega
variable {ops : Array Oper} {rest : List Oper} {o : Oper} {a : Act} {Q : Exit → Act → World → Prop}
set_option maxHeartbeats 2000000 in
set_option maxRecDepth 100000 in
theorem wpList_appRV (hgd : o.guard = none) (s x : Operand) (ho : o.op = .call { callee := .builtin .append, args := #[s, x], argTypes := #[47, 47] })
    (v : Value) (n : Nat) (l : List RV) (hs : a.eval s = v) (h : OwRV w S T v n l) (g c : Nat) (y : RV) (hx : a.eval x = .slice (some ⟨g, 0, none⟩) 1 c) (hy : Blk w g 31 #[.int .i64 y.k, .int .u64 (y.s : Int), .int .u32 (y.t : Int), .int .u64 (y.a : Int), .int .u64 (y.b : Int), .int .u32 (y.pg : Int), .int .u32 (y.rt : Int), .int .i64 y.o.k, .int .i64 y.o.s, .int .u32 (y.o.t : Int), .slice y.o.A y.o.m y.o.c, .slice y.iA y.im y.ic, .slice y.lA y.lm y.lc, .slice y.dA y.dm y.dc, .int .u32 (y.nx : Int)]) (hyi : y.In w T) (hb : (n + 1) * 176 ≤ 140737488355328)
    (hK : ∀ v' w', OwRV w' (fun b => S b ∨ w.heap.size ≤ b) (fun b => T b ∧ b < w.heap.size) v' (n + 1) (l ++ [y]) → w.grownBy w' v.ownBlock → wpList Tryz.prog ops Q rest (a.put o.dst v') w') : wpList Tryz.prog ops Q (o :: rest) a w := by
  refine wpList_plain hgd fun K hk => ?_
  obtain ⟨v', w', hrun, h2, h3⟩ := run_appRV o.type v n l h g c y hy hyi hb
  unfold Oper.wp execOp
  simp only [ho, resolve, invoke, builtin, Sem.run_bind, Sem.run_pure, Result.andThen_ok, List.map_toArray, List.map_cons, List.map_nil, hs, hx, hrun]
  exact hk _ _ (hK v' w' h2 h3)
end

set_option maxHeartbeats 4000000 in
set_option maxRecDepth 100000 in
theorem records_open {H : Type} {enc : TypeId × Value → H} {W : World} {a : Option Addr} {n c : Nat} {d : DataW H} {p : List MemPlace}
    (h : DataW.Trod enc Tryz.prog W 0 (fun _ => true) true 47 (.slice a n c) d p) : ∃ l, RVR W All a n l := by
  obtain ⟨f, hf⟩ := h
  rcases Go.Deep.open_slice Tryz.underlying47 hf with ⟨hcs, hx⟩ | ⟨ad, l, cap, m, f1, D, Pl, hcs, _, hl, hm, hmm, hx, hi⟩
  · simp [Value.cells] at hcs
    obtain ⟨rfl, rfl, rfl⟩ := hcs
    exact ⟨[], ⟨rfl, (fun x hx => by cases hx), Nat.zero_le _, fun h => absurd h (by omega)⟩⟩
  · simp [Value.cells] at hcs
    obtain ⟨rfl, rfl, rfl⟩ := hcs
    simp only [if_true] at hmm
    subst hmm
    have key : ∀ i, i < n → ∃ s : RV, s.In W All ∧ W.cell? (ad.add (i * 15)) = some (.int .i64 s.k) ∧ W.cell? (ad.add (i * 15 + 1)) = some (.int .u64 (s.s : Int)) ∧ W.cell? (ad.add (i * 15 + 2)) = some (.int .u32 (s.t : Int)) ∧ W.cell? (ad.add (i * 15 + 3)) = some (.int .u64 (s.a : Int)) ∧ W.cell? (ad.add (i * 15 + 4)) = some (.int .u64 (s.b : Int)) ∧ W.cell? (ad.add (i * 15 + 5)) = some (.int .u32 (s.pg : Int)) ∧ W.cell? (ad.add (i * 15 + 6)) = some (.int .u32 (s.rt : Int)) ∧ W.cell? (ad.add (i * 15 + 7)) = some (.int .i64 s.o.k) ∧ W.cell? (ad.add (i * 15 + 8)) = some (.int .i64 s.o.s) ∧ W.cell? (ad.add (i * 15 + 9)) = some (.int .u32 (s.o.t : Int)) ∧ W.cell? (ad.add (i * 15 + 10)) = some (.slice s.o.A s.o.m s.o.c) ∧ W.cell? (ad.add (i * 15 + 11)) = some (.slice s.iA s.im s.ic) ∧ W.cell? (ad.add (i * 15 + 12)) = some (.slice s.lA s.lm s.lc) ∧ W.cell? (ad.add (i * 15 + 13)) = some (.slice s.dA s.dm s.dc) ∧ W.cell? (ad.add (i * 15 + 14)) = some (.int .u32 (s.nx : Int)) := by
      intro i hin
      obtain ⟨cs', hc, ht⟩ := hi i (by omega)
      rw [cells31] at hc
      obtain ⟨_, hcl, hat⟩ := World.cells?_some hc
      obtain ⟨q, hq, he⟩ := record_open_ hcl ht
      subst he
      have k0 := hat 0 (by omega)
      have k1 := hat 1 (by omega)
      have k2 := hat 2 (by omega)
      have k3 := hat 3 (by omega)
      have k4 := hat 4 (by omega)
      have k5 := hat 5 (by omega)
      have k6 := hat 6 (by omega)
      have k7 := hat 7 (by omega)
      have k8 := hat 8 (by omega)
      have k9 := hat 9 (by omega)
      have k10 := hat 10 (by omega)
      have k11 := hat 11 (by omega)
      have k12 := hat 12 (by omega)
      have k13 := hat 13 (by omega)
      have k14 := hat 14 (by omega)
      simp only [add_of_add, rcs, List.getElem?_cons_zero, List.getElem?_cons_succ] at k0 k1 k2 k3 k4 k5 k6 k7 k8 k9 k10 k11 k12 k13 k14
      exact ⟨q, hq.inn, by simpa using k0, by simpa using k1, by simpa using k2, by simpa using k3, by simpa using k4, by simpa using k5, by simpa using k6, by simpa using k7, by simpa using k8, by simpa using k9, by simpa using k10, by simpa using k11, by simpa using k12, by simpa using k13, by simpa using k14⟩
    obtain ⟨its, hlen, hits⟩ := list_of n key
    refine ⟨its, ⟨hlen, fun it hit => ?_, by simp only [maxLen] at hm; omega, fun hpos => ?_⟩⟩
    · obtain ⟨i, hi⟩ := List.getElem?_of_mem hit
      exact (hits i it hi).1
    · obtain ⟨b, o, spot⟩ := ad
      obtain ⟨it0, _, h0, _⟩ := key 0 hpos
      have hspot : spot = none := by simpa [Addr.add] using World.cell?_spot h0
      subst hspot
      have hb := World.block_lt_of_cell? W _ h0
      rw [block_of_add] at hb
      refine ⟨b, o, rfl, hb, trivial, fun i it hi => ?_⟩
      obtain ⟨_, c0, c1, c2, c3, c4, c5, c6, c7, c8, c9, c10, c11, c12, c13, c14⟩ := hits i it hi
      have e : ∀ j, (⟨b, o, none⟩ : Addr).add j = ⟨b, o + j, none⟩ := fun j => Addr.add_mid b o j
      simp only [e, ← Nat.add_assoc] at c0 c1 c2 c3 c4 c5 c6 c7 c8 c9 c10 c11 c12 c13 c14
      exact ⟨c0, c1, c2, c3, c4, c5, c6, c7, c8, c9, c10, c11, c12, c13, c14⟩
end Go.Proofs.YtdhgbkibbileiaaGreat
namespace Go.Proofs.YtdhgbkibbileiaaGreat
open Go.RowKit
/-- what alive comes to -/
def Alive (w : World) (e : Ending) (w' : World) : Prop := e = .returned (.bool true) ∧ Below w.heap.size w w'
theorem codeE_yes {r : RE} (h : bytesE r ≠ []) : codeE r = 0 := by unfold codeE; rw [if_neg h]
theorem codeE_no {r : RE} (h : bytesE r = []) : codeE r = 5 := by unfold codeE; rw [if_pos h]
/-- what Decode comes to, as facts -/
def DecF (w : World) (l : List Nat) (e : Ending) (w' : World) : Prop := ∃ (r : RV) (n : Nat) (c : Int), e = .returned (.tuple #[r.agg, .int .i64 (n : Int), .int .i64 c]) ∧ ((c = 0 ∧ bytesE r.e = l.take n ∧ 3 ≤ n ∧ n ≤ l.length) ∨ (c ≠ 0 ∧ n = 0)) ∧ r.In w' All ∧ Brief r ∧ Below w.heap.size w w'
theorem decode_f (w : World) (A : Option Addr) (n c : Nat) (l : List Nat) (hr : RB w All A n l) (hnc : n ≤ c) (hlo : n ≤ 140737488351232) : Calls Tryz.prog 18 #[.slice A n c] w (DecF w l) := by
  refine (decode_any w A n c l hr hnc hlo).mono ?_
  rintro e w' ⟨r, rfl, h1, h2, h3⟩
  refine ⟨r, _, _, rfl, ?_, h2.mono fun _ _ _ => trivial, Brief.of_e h2 (by rw [h1]; exact (decR_brief l).1), h3⟩
  rcases decR_inv l with ⟨a, b, c, d, _⟩ | ⟨a, b, _⟩
  · exact Or.inl ⟨a, by rw [h1]; exact b, c, d⟩
  · exact Or.inr ⟨a, b⟩
/-- .. of a record's bytes, whatever stands behind them -/
def DecB (w : World) (x : RE) (e : Ending) (w' : World) : Prop := ∃ r : RV, e = .returned (.tuple #[r.agg, .int .i64 ((bytesE x).length : Int), .int .i64 0]) ∧ r.s = 0 ∧ r.e.bare = x.bare ∧ r.In w' All ∧ Below w.heap.size w w'
theorem decode_b (w : World) (A : Option Addr) (n c : Nat) (x : RE) (l : List Nat) (hx : x.In) (h0 : bytesE x ≠ []) (hr : RB w All A n (bytesE x ++ l)) (hnc : n ≤ c) (hlo : n ≤ 140737488351232) : Calls Tryz.prog 18 #[.slice A n c] w (DecB w x) := by
  refine (decode_any w A n c _ hr hnc hlo).mono ?_
  unfold DecR
  rw [decR_bytes hx h0 l]
  rintro e w' ⟨r, rfl, h1, h2, h3⟩
  refine ⟨r, rfl, ?_, ?_, h2.mono fun _ _ _ => trivial, h3⟩
  · exact congrArg RE.s h1
  · rw [h1]; rfl
/-- .. of a beginning of them -/
theorem decode_c (w : World) (A : Option Addr) (n c : Nat) (x : RE) (k : Nat) (h0 : bytesE x ≠ []) (hk : k < (bytesE x).length) (hr : RB w All A n ((bytesE x).take k)) (hnc : n ≤ c) (hlo : n ≤ 140737488351232) : Calls Tryz.prog 18 #[.slice A n c] w fun e w' => ∃ r : RV, e = .returned (.tuple #[r.agg, .int .i64 0, .int .i64 6]) ∧ Below w.heap.size w w' := by
  refine (decode_any w A n c _ hr hnc hlo).mono ?_
  unfold DecR
  rw [decR_cut h0 hk]
  rintro e w' ⟨r, rfl, h1, h2, h3⟩
  exact ⟨r, rfl, h3⟩
end Go.Proofs.YtdhgbkibbileiaaGreat
