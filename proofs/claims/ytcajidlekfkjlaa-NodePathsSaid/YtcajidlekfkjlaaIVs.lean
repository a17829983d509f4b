/-
ROWS OF IMAGES: what comes in, and the call's own.
-/
import Derived.Test.YtcajidlekfkjlaaPG
namespace Go.Proofs.Ytcajidlekfkjlaa
open Go.RowKit

/-- an image -/
structure IV where
  t : Nat
  p : PV
def IV.agg (x : IV) : Value := .agg #[.int .u32 (x.t : Int), .int .i64 x.p.k, .int .u64 (x.p.s : Int), .int .u32 (x.p.x : Int), .slice x.p.A x.p.n x.p.c]
structure IV.In (w : World) (S : Nat → Prop) (x : IV) : Prop where
  t : x.t < 4294967296
  p : x.p.In w S S
section
variable {w w' : World} {S U S' : Nat → Prop}
set_option maxRecDepth 100000 in
theorem IV.In.keep {x : IV} (h : x.In w S) (hf : Fr w w' U) (hd : ∀ b, S b → ¬ U b) : x.In w' S := ⟨h.t, h.p.keep hf hd hd⟩
set_option maxRecDepth 100000 in
theorem IV.In.mono {x : IV} (h : x.In w S) (hd : ∀ b, b < w.heap.size → S b → S' b) : x.In w S' := ⟨h.t, h.p.mono hd hd⟩
end

/-- a slice of IVs reads as l, its block in S -/
def IVR (w : World) (S : Nat → Prop) (A : Option Addr) (n : Nat) (l : List IV) : Prop :=
  l.length = n ∧ (∀ x ∈ l, x.In w S) ∧ n ≤ 9223372036854775807 ∧ (0 < n → ∃ g o, A = some ⟨g, o, none⟩ ∧ g < w.heap.size ∧ S g ∧ ∀ i x, l[i]? = some x → w.cell? ⟨g, o + i * 5, none⟩ = some (.int .u32 (x.t : Int)) ∧ w.cell? ⟨g, o + i * 5 + 1, none⟩ = some (.int .i64 x.p.k) ∧ w.cell? ⟨g, o + i * 5 + 2, none⟩ = some (.int .u64 (x.p.s : Int)) ∧ w.cell? ⟨g, o + i * 5 + 3, none⟩ = some (.int .u32 (x.p.x : Int)) ∧ w.cell? ⟨g, o + i * 5 + 4, none⟩ = some (.slice x.p.A x.p.n x.p.c))
set_option maxRecDepth 100000 in
theorem IVR.keep {w w' : World} {S U : Nat → Prop} {A : Option Addr} {n : Nat} {l : List IV} (h : IVR w S A n l) (hf : Fr w w' U) (hS : ∀ b, S b → ¬ U b) : IVR w' S A n l := by
  obtain ⟨h1, h2, h3, h4⟩ := h
  refine ⟨h1, fun x hx => (h2 x hx).keep hf hS, h3, fun hn => ?_⟩
  obtain ⟨g, o, e, hg, hs, hc⟩ := h4 hn
  refine ⟨g, o, e, Nat.lt_of_lt_of_le hg hf.size, hs, fun i x hi => ?_⟩
  have hb := hf.block g hg (hS g hs)
  obtain ⟨k0, k1, k2, k3, k4⟩ := hc i x hi
  exact ⟨(World.cell?_of_block hb).trans k0, (World.cell?_of_block hb).trans k1, (World.cell?_of_block hb).trans k2, (World.cell?_of_block hb).trans k3, (World.cell?_of_block hb).trans k4⟩
set_option maxRecDepth 100000 in
theorem IVR.mono {w : World} {S S' : Nat → Prop} {A : Option Addr} {n : Nat} {l : List IV} (h : IVR w S A n l) (hS : ∀ b, b < w.heap.size → S b → S' b) : IVR w S' A n l := by
  obtain ⟨h1, h2, h3, h4⟩ := h
  refine ⟨h1, fun x hx => (h2 x hx).mono hS, h3, fun hn => ?_⟩
  obtain ⟨g, o, e, hg, hs, hc⟩ := h4 hn
  exact ⟨g, o, e, hg, hS g hg hs, hc⟩
set_option maxRecDepth 100000 in
theorem IVR.at_ {w : World} {S : Nat → Prop} {A : Option Addr} {n : Nat} {l : List IV} (h : IVR w S A n l) {i : Nat} (hi : i < n) : ∃ g o x, A = some ⟨g, o, none⟩ ∧ g < w.heap.size ∧ S g ∧ l[i]? = some x ∧ x.In w S ∧
    w.cell? ⟨g, o + i * 5, none⟩ = some (.int .u32 (x.t : Int)) ∧ w.cell? ⟨g, o + i * 5 + 1, none⟩ = some (.int .i64 x.p.k) ∧ w.cell? ⟨g, o + i * 5 + 2, none⟩ = some (.int .u64 (x.p.s : Int)) ∧ w.cell? ⟨g, o + i * 5 + 3, none⟩ = some (.int .u32 (x.p.x : Int)) ∧ w.cell? ⟨g, o + i * 5 + 4, none⟩ = some (.slice x.p.A x.p.n x.p.c) := by
  obtain ⟨h1, h2, _, h4⟩ := h
  obtain ⟨g, o, e, hg, hs, hc⟩ := h4 (by omega)
  have hl : l[i]? = some l[i] := List.getElem?_eq_getElem (by omega)
  exact ⟨g, o, l[i], e, hg, hs, hl, h2 _ (List.getElem_mem _), hc i _ hl⟩

def ivs : List IV → List Value
  | [] => []
  | v :: r => .int .u32 (v.t : Int) :: .int .i64 v.p.k :: .int .u64 (v.p.s : Int) :: .int .u32 (v.p.x : Int) :: .slice v.p.A v.p.n v.p.c :: ivs r
set_option maxRecDepth 100000 in
theorem ivs_len (vs : List IV) : (ivs vs).length = vs.length * 5 := by
  induction vs with
  | nil => rfl
  | cons v r ih => simp [ivs, ih]; omega
set_option maxRecDepth 100000 in
theorem ivs_append (a b : List IV) : ivs (a ++ b) = ivs a ++ ivs b := by
  induction a with
  | nil => rfl
  | cons v r ih => simp [ivs, ih]
set_option maxRecDepth 100000 in
theorem ivs_one (vs : List IV) : ∀ u ∈ ivs vs, u.oneCell' = true := by
  induction vs with
  | nil => intro u hu; simp [ivs] at hu
  | cons v r ih =>
    intro u hu
    simp only [ivs, List.mem_cons] at hu
    rcases hu with rfl | rfl | rfl | rfl | rfl | hu
    · rfl
    · rfl
    · rfl
    · rfl
    · rfl
    · exact ih u hu
set_option maxRecDepth 100000 in
theorem ivs_at (vs : List IV) (i : Nat) (v : IV) (h : vs[i]? = some v) : (ivs vs)[i * 5]? = some (.int .u32 (v.t : Int)) ∧ (ivs vs)[i * 5 + 1]? = some (.int .i64 v.p.k) ∧ (ivs vs)[i * 5 + 2]? = some (.int .u64 (v.p.s : Int)) ∧ (ivs vs)[i * 5 + 3]? = some (.int .u32 (v.p.x : Int)) ∧ (ivs vs)[i * 5 + 4]? = some (.slice v.p.A v.p.n v.p.c) := by
  induction vs generalizing i with
  | nil => simp at h
  | cons u r ih =>
    cases i with
    | zero => simp at h; subst h; simp [ivs]
    | succ i =>
      simp at h
      have := ih i h
      simp only [ivs, show (i + 1) * 5 = i * 5 + 1 + 1 + 1 + 1 + 1 by omega, show i * 5 + 1 + 1 + 1 + 1 + 1 + 1 = (i * 5 + 1) + 1 + 1 + 1 + 1 + 1 by omega, show i * 5 + 1 + 1 + 1 + 1 + 1 + 2 = (i * 5 + 2) + 1 + 1 + 1 + 1 + 1 by omega, show i * 5 + 1 + 1 + 1 + 1 + 1 + 3 = (i * 5 + 3) + 1 + 1 + 1 + 1 + 1 by omega, show i * 5 + 1 + 1 + 1 + 1 + 1 + 4 = (i * 5 + 4) + 1 + 1 + 1 + 1 + 1 by omega, List.getElem?_cons_succ]
      exact this
/-- v is a slice of n items, the row of l; its block, if it has one, is one of S; what the items have lies in T, and not in that block. -/
def OwIV (w : World) (S T : Nat → Prop) (v : Value) (n : Nat) (l : List IV) : Prop :=
  w.ownsRow 0 54 5 v n (ivs l) ∧ (∀ x ∈ l, x.In w T) ∧ (∀ k, v.ownBlock = some k → S k) ∧ ∀ k, v.ownBlock = some k → ¬ T k
section
variable {w w' : World} {v : Value} {n : Nat} {l : List IV} {S T S' T' U : Nat → Prop}
set_option maxRecDepth 100000 in
theorem OwIV.len (h : OwIV w S T v n l) : l.length = n := by
  have := h.1.1
  rw [ivs_len] at this
  omega
set_option maxRecDepth 100000 in
theorem OwIV.nil_ (w : World) (S T : Nat → Prop) : OwIV w S T (.slice none 0 0) 0 [] := ⟨World.ownsRow_nil w 0 54 5, by simp, fun k hk => by simp [Value.ownBlock] at hk, fun k hk => by simp [Value.ownBlock] at hk⟩
set_option maxRecDepth 100000 in
theorem OwIV.mono (h : OwIV w S T v n l) (hS : ∀ b, b < w.heap.size → S b → S' b) (hT : ∀ b, b < w.heap.size → T b → T' b) (hn : ∀ k, v.ownBlock = some k → ¬ T' k) : OwIV w S' T' v n l :=
  ⟨h.1, fun x hx => (h.2.1 x hx).mono hT, fun k hk => hS k (h.1.lt k hk).2 (h.2.2.1 k hk), hn⟩
set_option maxRecDepth 100000 in
theorem OwIV.keep (h : OwIV w S T v n l) (hf : Fr w w' U) (hS : ∀ b, S b → ¬ U b) (hT : ∀ b, T b → ¬ U b) : OwIV w' S T v n l := by
  obtain ⟨⟨h1, h2⟩, h3, h4, h5⟩ := h
  refine ⟨⟨h1, ?_⟩, fun x hx => (h3 x hx).keep hf hT, h4, h5⟩
  rcases h2 with h2 | ⟨g, cap, cur, hv, hg, hh, r⟩
  · exact Or.inl h2
  · exact Or.inr ⟨g, cap, cur, hv, hg, (hf.block g (Blk.lt hh) (hS g (h4 g (by rw [hv]; rfl)))).trans hh, r⟩
set_option maxRecDepth 100000 in
theorem OwIV.fr (h : OwIV w S T v n l) (hf : Fr w w' No) : OwIV w' S T v n l := h.keep hf (fun _ _ hn => hn) fun _ _ hn => hn
set_option maxRecDepth 100000 in
theorem OwIV.alloc (h : OwIV w S T v n l) (o : Obj) : OwIV (w.alloc o) S T v n l := h.fr ((Fr.refl w No).alloc o)
set_option maxRecDepth 100000 in
theorem OwIV.reads (h : OwIV w S T v n l) (hn : n ≤ 140737488351232) : ∃ A c, v = .slice A n c ∧ n ≤ c ∧ c ≤ maxLen ∧ (A = none → c = 0) ∧ IVR w (fun b => S b ∨ T b) A n l := by
  have hlen := h.len
  obtain ⟨⟨h1, h2⟩, hl, hS, _⟩ := h
  have hl' : ∀ x ∈ l, x.In w (fun b => S b ∨ T b) := fun x hx => (hl x hx).mono fun b _ hb => Or.inr hb
  rcases h2 with ⟨rfl, h0⟩ | ⟨g, cap, cur, rfl, _, hg, hc, hm, hcur, htake⟩
  · subst h0
    exact ⟨none, 0, rfl, Nat.le_refl _, Nat.zero_le _, fun _ => rfl, hlen, hl', by omega, fun h => absurd h (by omega)⟩
  · refine ⟨_, _, rfl, hc, hm, (fun e => by cases e), hlen, hl', by omega, fun _ => ⟨g, 0, rfl, Blk.lt hg, Or.inl (hS g rfl), fun i x hi => ?_⟩⟩
    obtain ⟨a0, a1, a2, a3, a4⟩ := ivs_at l i x hi
    have hil : i < l.length := by
      rcases Nat.lt_or_ge i l.length with h | h
      · exact h
      · rw [List.getElem?_eq_none h] at hi; cases hi
    have key : ∀ j u, j < n * 5 → (ivs l)[j]? = some u → w.cell? ⟨g, j, none⟩ = some u := by
      intro j u hj hu
      rw [Blk.cell hg j]
      rw [← htake, List.getElem?_take_of_lt hj] at hu
      simpa using hu
    rw [Nat.zero_add]
    exact ⟨key _ _ (by omega) a0, key _ _ (by omega) a1, key _ _ (by omega) a2, key _ _ (by omega) a3, key _ _ (by omega) a4⟩
end
set_option maxRecDepth 100000 in
theorem infoIV : (Try.prog.info? 54).map (fun i => (i.zero, i.size, i.bytes)) = some (some (.agg #[.int .u32 0, .int .i64 0, .int .u64 0, .int .u32 0, .slice none 0 0]), 5, 56) := by kernel_rfl
section
variable {w : World} {S T : Nat → Prop}
set_option maxRecDepth 100000 in
theorem run_appIV (ty : TypeId) (v : Value) (n : Nat) (l : List IV) (h : OwIV w S T v n l) (g c : Nat) (x : IV) (hx : Blk w g 54 #[.int .u32 (x.t : Int), .int .i64 x.p.k, .int .u64 (x.p.s : Int), .int .u32 (x.p.x : Int), .slice x.p.A x.p.n x.p.c]) (hxi : x.In w T) (hb : (n + 1) * 56 ≤ 140737488355328) :
    ∃ v' w', (Builtin.append_ #[22, 22] ty #[v, .slice (some ⟨g, 0, none⟩) 1 c]).run Try.prog w = .ok v' w' ∧ OwIV w' (fun b => S b ∨ w.heap.size ≤ b) (fun b => T b ∧ b < w.heap.size) v' (n + 1) (l ++ [x]) ∧ w.grownBy w' v.ownBlock := by
  obtain ⟨i0, hi, hz0, hz1, hz2⟩ := info_parts infoIV
  have hin : ∀ w', w.grownBy w' v.ownBlock → ∀ y ∈ l ++ [x], y.In w' (fun b => T b ∧ b < w.heap.size) := by
    intro w' hg y hy
    have hyi : y.In w T := by
      rcases List.mem_append.1 hy with hy | hy
      · exact h.2.1 y hy
      · rw [List.mem_singleton] at hy; subst hy; exact hxi
    have hf : Fr w w' (fun b => v.ownBlock = some b) := (Fr.refl w _).grown hg fun k hk => Or.inl hk
    exact (hyi.mono (S' := fun b => T b ∧ b < w.heap.size) fun b hlt hb => ⟨hb, hlt⟩).keep hf fun b hb hk => h.2.2.2 b hk hb.1
  have hcells : ∀ j u, (ivs [x])[j]? = some u → w.cell? ((⟨g, 0, none⟩ : Addr).add j) = some u := by
    intro j u hu
    rw [add_head, hx.cell j]
    simpa [ivs] using hu
  obtain ⟨v', w', h1, h2, h3, _, h5⟩ := run_append_own_at (P := Try.prog) w 0 22 ty 54 i0 (.agg #[.int .u32 0, .int .i64 0, .int .u64 0, .int .u32 0, .slice none 0 0]) 5 56 Try.underlying22 hi hz0 hz1 hz2 (by decide) (by decide) v n (ivs l) h.1 ⟨g, 0, none⟩ 1 c (ivs [x])
    (by rw [ivs_len]; rfl) hcells (ivs_one [x]) (by simp only [maxLen]; omega) hb (Nat.zero_le _)
  rw [← ivs_append] at h2
  refine ⟨v', w', h1, ⟨h2, hin w' h3, fun q hq => ?_, fun q hq hT => ?_⟩, h3⟩
  · rcases h5 with h5 | h5
    · exact Or.inl (h.2.2.1 q (by rw [← h5]; exact hq))
    · rw [h5] at hq
      injection hq with hq
      exact Or.inr (by omega)
  · rcases h5 with h5 | h5
    · exact h.2.2.2 q (by rw [← h5]; exact hq) hT.1
    · rw [h5] at hq
      injection hq with hq
      have := hT.2
      omega
variable {ops : Array Oper} {rest : List Oper} {o : Oper} {a : Act} {Q : Exit → Act → World → Prop}
set_option maxRecDepth 100000 in
theorem wpList_appIV (hgd : o.guard = none) (s x : Operand) (ho : o.op = .call { callee := .builtin .append, args := #[s, x], argTypes := #[22, 22] })
    (v : Value) (n : Nat) (l : List IV) (hs : a.eval s = v) (h : OwIV w S T v n l) (g c : Nat) (y : IV) (hx : a.eval x = .slice (some ⟨g, 0, none⟩) 1 c) (hy : Blk w g 54 #[.int .u32 (y.t : Int), .int .i64 y.p.k, .int .u64 (y.p.s : Int), .int .u32 (y.p.x : Int), .slice y.p.A y.p.n y.p.c]) (hyi : y.In w T) (hb : (n + 1) * 56 ≤ 140737488355328)
    (hK : ∀ v' w', OwIV w' (fun b => S b ∨ w.heap.size ≤ b) (fun b => T b ∧ b < w.heap.size) v' (n + 1) (l ++ [y]) → w.grownBy w' v.ownBlock → wpList Try.prog ops Q rest (a.put o.dst v') w') : wpList Try.prog ops Q (o :: rest) a w := by
  refine wpList_plain hgd fun K hk => ?_
  obtain ⟨v', w', hrun, h2, h3⟩ := run_appIV o.type v n l h g c y hy hyi hb
  unfold Oper.wp execOp
  simp only [ho, resolve, invoke, builtin, Sem.run_bind, Sem.run_pure, Result.andThen_ok, List.map_toArray, List.map_cons, List.map_nil, hs, hx, hrun]
  exact hk _ _ (hK v' w' h2 h3)
end
end Go.Proofs.Ytcajidlekfkjlaa
