/-
RQ
-/
import Derived.Test.YtdhgbkibbileiaaGreatRA
set_option maxRecDepth 100000
namespace Go.Proofs.YtdhgbkibbileiaaGreat
open Go.RowKit
def dvs : List DV → List Value
 | [] => []
 | v :: r => .int .u32 (v.t : Int) :: .int .u64 (v.a : Int) :: dvs r
theorem dvs_len (vs : List DV) : (dvs vs).length = vs.length * 2 := by
 induction vs with
 | nil => rfl
 | cons v r ih => simp [dvs, ih]; omega
theorem dvs_append (a b : List DV) : dvs (a ++ b) = dvs a ++ dvs b := by
 induction a with
 | nil => rfl
 | cons v r ih => simp [dvs, ih]
theorem dvs_one (vs : List DV) : ∀ u ∈ dvs vs, u.oneCell' = true := by
 induction vs with
 | nil => intro u hu; simp [dvs] at hu
 | cons v r ih =>
   intro u hu
   simp only [dvs, List.mem_cons] at hu
   rcases hu with rfl | rfl | hu
   ·rfl
   ·rfl
   ·exact ih u hu
theorem dvs_at (vs : List DV) (i : Nat) (v : DV) (h : vs[i]? = some v) : (dvs vs)[i * 2]? = some (.int .u32 (v.t : Int)) ∧ (dvs vs)[i * 2 + 1]? = some (.int .u64 (v.a : Int)) := by
 induction vs generalizing i with
 | nil => simp at h
 | cons u r ih =>
   cases i with
   | zero => simp at h; subst h; simp [dvs]
   | succ i =>
     simp at h
     have := ih i h
     simp only [dvs, show (i + 1) * 2 = i * 2 + 1 + 1 by omega, List.getElem?_cons_succ]
     exact this
def OwDV (w : World) (S T : Nat → Prop) (v : Value) (n : Nat) (l : List DV) : Prop :=
 w.ownsRow 0 64 2 v n (dvs l) ∧ (∀ x ∈ l, x.In w T) ∧ (∀ k, v.ownBlock = some k → S k) ∧ ∀ k, v.ownBlock = some k → ¬ T k
section
variable {w w' : World} {v : Value} {n : Nat} {l : List DV} {S T S' T' U : Nat → Prop}
theorem OwDV.len (h : OwDV w S T v n l) : l.length = n := by
 have := h.1.1
 rw [dvs_len] at this
 omega
theorem OwDV.nil_ (w : World) (S T : Nat → Prop) : OwDV w S T (.slice none 0 0) 0 [] := ⟨World.ownsRow_nil w 0 64 2, by simp, fun k hk => by simp [Value.ownBlock] at hk, fun k hk => by simp [Value.ownBlock] at hk⟩
theorem OwDV.mono (h : OwDV w S T v n l) (hS : ∀ b, b < w.heap.size → S b → S' b) (hT : ∀ b, b < w.heap.size → T b → T' b) (hn : ∀ k, v.ownBlock = some k → ¬ T' k) : OwDV w S' T' v n l :=
 ⟨h.1, fun x hx => (h.2.1 x hx).mono hT, fun k hk => hS k (h.1.lt k hk).2 (h.2.2.1 k hk), hn⟩
theorem OwDV.keep (h : OwDV w S T v n l) (hf : Fr w w' U) (hS : ∀ b, S b → ¬ U b) (hT : ∀ b, T b → ¬ U b) : OwDV w' S T v n l := by
 obtain ⟨⟨h1, h2⟩, h3, h4, h5⟩ := h
 refine ⟨⟨h1, ?_⟩, fun x hx => (h3 x hx).keep hf hT, h4, h5⟩
 rcases h2 with h2 | ⟨g, cap, cur, hv, hg, hh, r⟩
 ·exact Or.inl h2
 ·exact Or.inr ⟨g, cap, cur, hv, hg, (hf.block g (Blk.lt hh) (hS g (h4 g (by rw [hv]; rfl)))).trans hh, r⟩
theorem OwDV.fr (h : OwDV w S T v n l) (hf : Fr w w' No) : OwDV w' S T v n l := h.keep hf (fun _ _ hn => hn) fun _ _ hn => hn
theorem OwDV.alloc (h : OwDV w S T v n l) (o : Obj) : OwDV (w.alloc o) S T v n l := h.fr ((Fr.refl w No).alloc o)
theorem OwDV.reads (h : OwDV w S T v n l) (hn : n ≤ 140737488351232) : ∃ A c, v = .slice A n c ∧ n ≤ c ∧ c ≤ maxLen ∧ (A = none → c = 0) ∧ DVR w (fun b => S b ∨ T b) A n l := by
 have hlen := h.len
 obtain ⟨⟨h1, h2⟩, hl, hS, _⟩ := h
 have hl' : ∀ x ∈ l, x.In w (fun b => S b ∨ T b) := fun x hx => (hl x hx).mono fun b _ hb => Or.inr hb
 rcases h2 with ⟨rfl, h0⟩ | ⟨g, cap, cur, rfl, _, hg, hc, hm, hcur, htake⟩
 ·subst h0
  exact ⟨none, 0, rfl, Nat.le_refl _, Nat.zero_le _, fun _ => rfl, hlen, hl', by omega, fun h => absurd h (by omega)⟩
 ·refine ⟨_, _, rfl, hc, hm, (fun e => by cases e), hlen, hl', by omega, fun _ => ⟨g, 0, rfl, Blk.lt hg, Or.inl (hS g rfl), fun i x hi => ?_⟩⟩
  obtain ⟨a0, a1⟩ := dvs_at l i x hi
  have hil : i < l.length := by
   rcases Nat.lt_or_ge i l.length with h | h
   ·exact h
   ·rw [List.getElem?_eq_none h] at hi; cases hi
  have key : ∀ j u, j < n * 2 → (dvs l)[j]? = some u → w.cell? ⟨g, j, none⟩ = some u := by
   intro j u hj hu
   rw [Blk.cell hg j]
   rw [← htake, List.getElem?_take_of_lt hj] at hu
   simpa using hu
  rw [Nat.zero_add]
  exact ⟨key _ _ (by omega) a0, key _ _ (by omega) a1⟩
end
theorem infoDV : (Tryz.prog.info? 64).map (fun i => (i.zero, i.size, i.bytes)) = some (some (.agg #[.int .u32 0, .int .u64 0]), 2, 16) := by kernel_rfl
section
variable {w : World} {S T : Nat → Prop}
theorem run_appDV (ty : TypeId) (v : Value) (n : Nat) (l : List DV) (h : OwDV w S T v n l) (g c : Nat) (x : DV) (hx : Blk w g 64 #[.int .u32 (x.t : Int), .int .u64 (x.a : Int)]) (hxi : x.In w T) (hb : (n + 1) * 16 ≤ 140737488355328) :
  ∃ v' w', (Builtin.append_ #[29, 29] ty #[v, .slice (some ⟨g, 0, none⟩) 1 c]).run Tryz.prog w = .ok v' w' ∧ OwDV w' (fun b => S b ∨ w.heap.size ≤ b) (fun b => T b ∧ b < w.heap.size) v' (n + 1) (l ++ [x]) ∧ w.grownBy w' v.ownBlock := by
 obtain ⟨i0, hi, hz0, hz1, hz2⟩ := info_parts infoDV
 have hin : ∀ w', w.grownBy w' v.ownBlock → ∀ y ∈ l ++ [x], y.In w' (fun b => T b ∧ b < w.heap.size) := by
  intro w' hg y hy
  have hyi : y.In w T := by
   rcases List.mem_append.1 hy with hy | hy
   ·exact h.2.1 y hy
   ·rw [List.mem_singleton] at hy; subst hy; exact hxi
  have hf : Fr w w' (fun b => v.ownBlock = some b) := (Fr.refl w _).grown hg fun k hk => Or.inl hk
  exact (hyi.mono (S' := fun b => T b ∧ b < w.heap.size) fun b hlt hb => ⟨hb, hlt⟩).keep hf fun b hb hk => h.2.2.2 b hk hb.1
 have hcells : ∀ j u, (dvs [x])[j]? = some u → w.cell? ((⟨g, 0, none⟩ : Addr).add j) = some u := by
  intro j u hu
  rw [add_head, hx.cell j]
  simpa [dvs] using hu
 obtain ⟨v', w', h1, h2, h3, _, h5⟩ := run_append_own_at (P := Tryz.prog) w 0 29 ty 64 i0 (.agg #[.int .u32 0, .int .u64 0]) 2 16 Tryz.underlying29 hi hz0 hz1 hz2 (by decide) (by decide) v n (dvs l) h.1 ⟨g, 0, none⟩ 1 c (dvs [x])
  (by rw [dvs_len]; rfl) hcells (dvs_one [x]) (by simp only [maxLen]; omega) hb (Nat.zero_le _)
 rw [← dvs_append] at h2
 refine ⟨v', w', h1, ⟨h2, hin w' h3, fun q hq => ?_, fun q hq hT => ?_⟩, h3⟩
 ·rcases h5 with h5 | h5
  ·exact Or.inl (h.2.2.1 q (by rw [← h5]; exact hq))
  ·rw [h5] at hq
   injection hq with hq
   exact Or.inr (by omega)
 ·rcases h5 with h5 | h5
  ·exact h.2.2.2 q (by rw [← h5]; exact hq) hT.1
  ·rw [h5] at hq
   injection hq with hq
   have := hT.2
   omega
variable {ops : Array Oper} {rest : List Oper} {o : Oper} {a : Act} {Q : Exit → Act → World → Prop}
theorem wpList_appDV (hgd : o.guard = none) (s x : Operand) (ho : o.op = .call { callee := .builtin .append, args := #[s, x], argTypes := #[29, 29] })
  (v : Value) (n : Nat) (l : List DV) (hs : a.eval s = v) (h : OwDV w S T v n l) (g c : Nat) (y : DV) (hx : a.eval x = .slice (some ⟨g, 0, none⟩) 1 c) (hy : Blk w g 64 #[.int .u32 (y.t : Int), .int .u64 (y.a : Int)]) (hyi : y.In w T) (hb : (n + 1) * 16 ≤ 140737488355328)
  (hK : ∀ v' w', OwDV w' (fun b => S b ∨ w.heap.size ≤ b) (fun b => T b ∧ b < w.heap.size) v' (n + 1) (l ++ [y]) → w.grownBy w' v.ownBlock → wpList Tryz.prog ops Q rest (a.put o.dst v') w') : wpList Tryz.prog ops Q (o :: rest) a w := by
 refine wpList_plain hgd fun K hk => ?_
 obtain ⟨v', w', hrun, h2, h3⟩ := run_appDV o.type v n l h g c y hy hyi hb
 unfold Oper.wp execOp
 simp only [ho, resolve, invoke, builtin, Sem.run_bind, Sem.run_pure, Result.andThen_ok, List.map_toArray, List.map_cons, List.map_nil, hs, hx, hrun]
 exact hk _ _ (hK v' w' h2 h3)
end
def lvs : List LV → List Value
 | [] => []
 | v :: r => .int .u32 (v.t : Int) :: .int .u64 (v.a : Int) :: .int .u64 (v.b : Int) :: .bool v.z :: lvs r
theorem lvs_len (vs : List LV) : (lvs vs).length = vs.length * 4 := by
 induction vs with
 | nil => rfl
 | cons v r ih => simp [lvs, ih]; omega
theorem lvs_append (a b : List LV) : lvs (a ++ b) = lvs a ++ lvs b := by
 induction a with
 | nil => rfl
 | cons v r ih => simp [lvs, ih]
theorem lvs_one (vs : List LV) : ∀ u ∈ lvs vs, u.oneCell' = true := by
 induction vs with
 | nil => intro u hu; simp [lvs] at hu
 | cons v r ih =>
   intro u hu
   simp only [lvs, List.mem_cons] at hu
   rcases hu with rfl | rfl | rfl | rfl | hu
   ·rfl
   ·rfl
   ·rfl
   ·rfl
   ·exact ih u hu
theorem lvs_at (vs : List LV) (i : Nat) (v : LV) (h : vs[i]? = some v) : (lvs vs)[i * 4]? = some (.int .u32 (v.t : Int)) ∧ (lvs vs)[i * 4 + 1]? = some (.int .u64 (v.a : Int)) ∧ (lvs vs)[i * 4 + 2]? = some (.int .u64 (v.b : Int)) ∧ (lvs vs)[i * 4 + 3]? = some (.bool v.z) := by
 induction vs generalizing i with
 | nil => simp at h
 | cons u r ih =>
   cases i with
   | zero => simp at h; subst h; simp [lvs]
   | succ i =>
     simp at h
     have := ih i h
     simp only [lvs, show (i + 1) * 4 = i * 4 + 1 + 1 + 1 + 1 by omega, show i * 4 + 1 + 1 + 1 + 1 + 1 = (i * 4 + 1) + 1 + 1 + 1 + 1 by omega, show i * 4 + 1 + 1 + 1 + 1 + 2 = (i * 4 + 2) + 1 + 1 + 1 + 1 by omega, show i * 4 + 1 + 1 + 1 + 1 + 3 = (i * 4 + 3) + 1 + 1 + 1 + 1 by omega, List.getElem?_cons_succ]
     exact this
def OwLV (w : World) (S T : Nat → Prop) (v : Value) (n : Nat) (l : List LV) : Prop :=
 w.ownsRow 0 62 4 v n (lvs l) ∧ (∀ x ∈ l, x.In w T) ∧ (∀ k, v.ownBlock = some k → S k) ∧ ∀ k, v.ownBlock = some k → ¬ T k
section
variable {w w' : World} {v : Value} {n : Nat} {l : List LV} {S T S' T' U : Nat → Prop}
theorem OwLV.len (h : OwLV w S T v n l) : l.length = n := by
 have := h.1.1
 rw [lvs_len] at this
 omega
theorem OwLV.nil_ (w : World) (S T : Nat → Prop) : OwLV w S T (.slice none 0 0) 0 [] := ⟨World.ownsRow_nil w 0 62 4, by simp, fun k hk => by simp [Value.ownBlock] at hk, fun k hk => by simp [Value.ownBlock] at hk⟩
theorem OwLV.mono (h : OwLV w S T v n l) (hS : ∀ b, b < w.heap.size → S b → S' b) (hT : ∀ b, b < w.heap.size → T b → T' b) (hn : ∀ k, v.ownBlock = some k → ¬ T' k) : OwLV w S' T' v n l :=
 ⟨h.1, fun x hx => (h.2.1 x hx).mono hT, fun k hk => hS k (h.1.lt k hk).2 (h.2.2.1 k hk), hn⟩
theorem OwLV.keep (h : OwLV w S T v n l) (hf : Fr w w' U) (hS : ∀ b, S b → ¬ U b) (hT : ∀ b, T b → ¬ U b) : OwLV w' S T v n l := by
 obtain ⟨⟨h1, h2⟩, h3, h4, h5⟩ := h
 refine ⟨⟨h1, ?_⟩, fun x hx => (h3 x hx).keep hf hT, h4, h5⟩
 rcases h2 with h2 | ⟨g, cap, cur, hv, hg, hh, r⟩
 ·exact Or.inl h2
 ·exact Or.inr ⟨g, cap, cur, hv, hg, (hf.block g (Blk.lt hh) (hS g (h4 g (by rw [hv]; rfl)))).trans hh, r⟩
theorem OwLV.fr (h : OwLV w S T v n l) (hf : Fr w w' No) : OwLV w' S T v n l := h.keep hf (fun _ _ hn => hn) fun _ _ hn => hn
theorem OwLV.alloc (h : OwLV w S T v n l) (o : Obj) : OwLV (w.alloc o) S T v n l := h.fr ((Fr.refl w No).alloc o)
theorem OwLV.reads (h : OwLV w S T v n l) (hn : n ≤ 140737488351232) : ∃ A c, v = .slice A n c ∧ n ≤ c ∧ c ≤ maxLen ∧ (A = none → c = 0) ∧ LVR w (fun b => S b ∨ T b) A n l := by
 have hlen := h.len
 obtain ⟨⟨h1, h2⟩, hl, hS, _⟩ := h
 have hl' : ∀ x ∈ l, x.In w (fun b => S b ∨ T b) := fun x hx => (hl x hx).mono fun b _ hb => Or.inr hb
 rcases h2 with ⟨rfl, h0⟩ | ⟨g, cap, cur, rfl, _, hg, hc, hm, hcur, htake⟩
 ·subst h0
  exact ⟨none, 0, rfl, Nat.le_refl _, Nat.zero_le _, fun _ => rfl, hlen, hl', by omega, fun h => absurd h (by omega)⟩
 ·refine ⟨_, _, rfl, hc, hm, (fun e => by cases e), hlen, hl', by omega, fun _ => ⟨g, 0, rfl, Blk.lt hg, Or.inl (hS g rfl), fun i x hi => ?_⟩⟩
  obtain ⟨a0, a1, a2, a3⟩ := lvs_at l i x hi
  have hil : i < l.length := by
   rcases Nat.lt_or_ge i l.length with h | h
   ·exact h
   ·rw [List.getElem?_eq_none h] at hi; cases hi
  have key : ∀ j u, j < n * 4 → (lvs l)[j]? = some u → w.cell? ⟨g, j, none⟩ = some u := by
   intro j u hj hu
   rw [Blk.cell hg j]
   rw [← htake, List.getElem?_take_of_lt hj] at hu
   simpa using hu
  rw [Nat.zero_add]
  exact ⟨key _ _ (by omega) a0, key _ _ (by omega) a1, key _ _ (by omega) a2, key _ _ (by omega) a3⟩
end
theorem infoLV : (Tryz.prog.info? 62).map (fun i => (i.zero, i.size, i.bytes)) = some (some (.agg #[.int .u32 0, .int .u64 0, .int .u64 0, .bool false]), 4, 32) := by kernel_rfl
section
variable {w : World} {S T : Nat → Prop}
theorem run_appLV (ty : TypeId) (v : Value) (n : Nat) (l : List LV) (h : OwLV w S T v n l) (g c : Nat) (x : LV) (hx : Blk w g 62 #[.int .u32 (x.t : Int), .int .u64 (x.a : Int), .int .u64 (x.b : Int), .bool x.z]) (hxi : x.In w T) (hb : (n + 1) * 32 ≤ 140737488355328) :
  ∃ v' w', (Builtin.append_ #[28, 28] ty #[v, .slice (some ⟨g, 0, none⟩) 1 c]).run Tryz.prog w = .ok v' w' ∧ OwLV w' (fun b => S b ∨ w.heap.size ≤ b) (fun b => T b ∧ b < w.heap.size) v' (n + 1) (l ++ [x]) ∧ w.grownBy w' v.ownBlock := by
 obtain ⟨i0, hi, hz0, hz1, hz2⟩ := info_parts infoLV
 have hin : ∀ w', w.grownBy w' v.ownBlock → ∀ y ∈ l ++ [x], y.In w' (fun b => T b ∧ b < w.heap.size) := by
  intro w' hg y hy
  have hyi : y.In w T := by
   rcases List.mem_append.1 hy with hy | hy
   ·exact h.2.1 y hy
   ·rw [List.mem_singleton] at hy; subst hy; exact hxi
  have hf : Fr w w' (fun b => v.ownBlock = some b) := (Fr.refl w _).grown hg fun k hk => Or.inl hk
  exact (hyi.mono (S' := fun b => T b ∧ b < w.heap.size) fun b hlt hb => ⟨hb, hlt⟩).keep hf fun b hb hk => h.2.2.2 b hk hb.1
 have hcells : ∀ j u, (lvs [x])[j]? = some u → w.cell? ((⟨g, 0, none⟩ : Addr).add j) = some u := by
  intro j u hu
  rw [add_head, hx.cell j]
  simpa [lvs] using hu
 obtain ⟨v', w', h1, h2, h3, _, h5⟩ := run_append_own_at (P := Tryz.prog) w 0 28 ty 62 i0 (.agg #[.int .u32 0, .int .u64 0, .int .u64 0, .bool false]) 4 32 Tryz.underlying28 hi hz0 hz1 hz2 (by decide) (by decide) v n (lvs l) h.1 ⟨g, 0, none⟩ 1 c (lvs [x])
  (by rw [lvs_len]; rfl) hcells (lvs_one [x]) (by simp only [maxLen]; omega) hb (Nat.zero_le _)
 rw [← lvs_append] at h2
 refine ⟨v', w', h1, ⟨h2, hin w' h3, fun q hq => ?_, fun q hq hT => ?_⟩, h3⟩
 ·rcases h5 with h5 | h5
  ·exact Or.inl (h.2.2.1 q (by rw [← h5]; exact hq))
  ·rw [h5] at hq
   injection hq with hq
   exact Or.inr (by omega)
 ·rcases h5 with h5 | h5
  ·exact h.2.2.2 q (by rw [← h5]; exact hq) hT.1
  ·rw [h5] at hq
   injection hq with hq
   have := hT.2
   omega
variable {ops : Array Oper} {rest : List Oper} {o : Oper} {a : Act} {Q : Exit → Act → World → Prop}
theorem wpList_appLV (hgd : o.guard = none) (s x : Operand) (ho : o.op = .call { callee := .builtin .append, args := #[s, x], argTypes := #[28, 28] })
  (v : Value) (n : Nat) (l : List LV) (hs : a.eval s = v) (h : OwLV w S T v n l) (g c : Nat) (y : LV) (hx : a.eval x = .slice (some ⟨g, 0, none⟩) 1 c) (hy : Blk w g 62 #[.int .u32 (y.t : Int), .int .u64 (y.a : Int), .int .u64 (y.b : Int), .bool y.z]) (hyi : y.In w T) (hb : (n + 1) * 32 ≤ 140737488355328)
  (hK : ∀ v' w', OwLV w' (fun b => S b ∨ w.heap.size ≤ b) (fun b => T b ∧ b < w.heap.size) v' (n + 1) (l ++ [y]) → w.grownBy w' v.ownBlock → wpList Tryz.prog ops Q rest (a.put o.dst v') w') : wpList Tryz.prog ops Q (o :: rest) a w := by
 refine wpList_plain hgd fun K hk => ?_
 obtain ⟨v', w', hrun, h2, h3⟩ := run_appLV o.type v n l h g c y hy hyi hb
 unfold Oper.wp execOp
 simp only [ho, resolve, invoke, builtin, Sem.run_bind, Sem.run_pure, Result.andThen_ok, List.map_toArray, List.map_cons, List.map_nil, hs, hx, hrun]
 exact hk _ _ (hK v' w' h2 h3)
end
def ivs : List IV → List Value
 | [] => []
 | v :: r => .int .u32 (v.t : Int) :: .int .i64 v.p.k :: .int .u64 (v.p.s : Int) :: .int .u32 (v.p.x : Int) :: .slice v.p.A v.p.n v.p.c :: ivs r
theorem ivs_len (vs : List IV) : (ivs vs).length = vs.length * 5 := by
 induction vs with
 | nil => rfl
 | cons v r ih => simp [ivs, ih]; omega
theorem ivs_append (a b : List IV) : ivs (a ++ b) = ivs a ++ ivs b := by
 induction a with
 | nil => rfl
 | cons v r ih => simp [ivs, ih]
theorem ivs_one (vs : List IV) : ∀ u ∈ ivs vs, u.oneCell' = true := by
 induction vs with
 | nil => intro u hu; simp [ivs] at hu
 | cons v r ih =>
   intro u hu
   simp only [ivs, List.mem_cons] at hu
   rcases hu with rfl | rfl | rfl | rfl | rfl | hu
   ·rfl
   ·rfl
   ·rfl
   ·rfl
   ·rfl
   ·exact ih u hu
theorem ivs_at (vs : List IV) (i : Nat) (v : IV) (h : vs[i]? = some v) : (ivs vs)[i * 5]? = some (.int .u32 (v.t : Int)) ∧ (ivs vs)[i * 5 + 1]? = some (.int .i64 v.p.k) ∧ (ivs vs)[i * 5 + 2]? = some (.int .u64 (v.p.s : Int)) ∧ (ivs vs)[i * 5 + 3]? = some (.int .u32 (v.p.x : Int)) ∧ (ivs vs)[i * 5 + 4]? = some (.slice v.p.A v.p.n v.p.c) := by
 induction vs generalizing i with
 | nil => simp at h
 | cons u r ih =>
   cases i with
   | zero => simp at h; subst h; simp [ivs]
   | succ i =>
     simp at h
     have := ih i h
     simp only [ivs, show (i + 1) * 5 = i * 5 + 1 + 1 + 1 + 1 + 1 by omega, show i * 5 + 1 + 1 + 1 + 1 + 1 + 1 = (i * 5 + 1) + 1 + 1 + 1 + 1 + 1 by omega, show i * 5 + 1 + 1 + 1 + 1 + 1 + 2 = (i * 5 + 2) + 1 + 1 + 1 + 1 + 1 by omega, show i * 5 + 1 + 1 + 1 + 1 + 1 + 3 = (i * 5 + 3) + 1 + 1 + 1 + 1 + 1 by omega, show i * 5 + 1 + 1 + 1 + 1 + 1 + 4 = (i * 5 + 4) + 1 + 1 + 1 + 1 + 1 by omega, List.getElem?_cons_succ]
     exact this
def OwIV (w : World) (S T : Nat → Prop) (v : Value) (n : Nat) (l : List IV) : Prop :=
 w.ownsRow 0 53 5 v n (ivs l) ∧ (∀ x ∈ l, x.In w T) ∧ (∀ k, v.ownBlock = some k → S k) ∧ ∀ k, v.ownBlock = some k → ¬ T k
section
variable {w w' : World} {v : Value} {n : Nat} {l : List IV} {S T S' T' U : Nat → Prop}
theorem OwIV.len (h : OwIV w S T v n l) : l.length = n := by
 have := h.1.1
 rw [ivs_len] at this
 omega
theorem OwIV.nil_ (w : World) (S T : Nat → Prop) : OwIV w S T (.slice none 0 0) 0 [] := ⟨World.ownsRow_nil w 0 53 5, by simp, fun k hk => by simp [Value.ownBlock] at hk, fun k hk => by simp [Value.ownBlock] at hk⟩
theorem OwIV.mono (h : OwIV w S T v n l) (hS : ∀ b, b < w.heap.size → S b → S' b) (hT : ∀ b, b < w.heap.size → T b → T' b) (hn : ∀ k, v.ownBlock = some k → ¬ T' k) : OwIV w S' T' v n l :=
 ⟨h.1, fun x hx => (h.2.1 x hx).mono hT, fun k hk => hS k (h.1.lt k hk).2 (h.2.2.1 k hk), hn⟩
theorem OwIV.keep (h : OwIV w S T v n l) (hf : Fr w w' U) (hS : ∀ b, S b → ¬ U b) (hT : ∀ b, T b → ¬ U b) : OwIV w' S T v n l := by
 obtain ⟨⟨h1, h2⟩, h3, h4, h5⟩ := h
 refine ⟨⟨h1, ?_⟩, fun x hx => (h3 x hx).keep hf hT, h4, h5⟩
 rcases h2 with h2 | ⟨g, cap, cur, hv, hg, hh, r⟩
 ·exact Or.inl h2
 ·exact Or.inr ⟨g, cap, cur, hv, hg, (hf.block g (Blk.lt hh) (hS g (h4 g (by rw [hv]; rfl)))).trans hh, r⟩
theorem OwIV.fr (h : OwIV w S T v n l) (hf : Fr w w' No) : OwIV w' S T v n l := h.keep hf (fun _ _ hn => hn) fun _ _ hn => hn
theorem OwIV.alloc (h : OwIV w S T v n l) (o : Obj) : OwIV (w.alloc o) S T v n l := h.fr ((Fr.refl w No).alloc o)
theorem OwIV.reads (h : OwIV w S T v n l) (hn : n ≤ 140737488351232) : ∃ A c, v = .slice A n c ∧ n ≤ c ∧ c ≤ maxLen ∧ (A = none → c = 0) ∧ IVR w (fun b => S b ∨ T b) A n l := by
 have hlen := h.len
 obtain ⟨⟨h1, h2⟩, hl, hS, _⟩ := h
 have hl' : ∀ x ∈ l, x.In w (fun b => S b ∨ T b) := fun x hx => (hl x hx).mono fun b _ hb => Or.inr hb
 rcases h2 with ⟨rfl, h0⟩ | ⟨g, cap, cur, rfl, _, hg, hc, hm, hcur, htake⟩
 ·subst h0
  exact ⟨none, 0, rfl, Nat.le_refl _, Nat.zero_le _, fun _ => rfl, hlen, hl', by omega, fun h => absurd h (by omega)⟩
 ·refine ⟨_, _, rfl, hc, hm, (fun e => by cases e), hlen, hl', by omega, fun _ => ⟨g, 0, rfl, Blk.lt hg, Or.inl (hS g rfl), fun i x hi => ?_⟩⟩
  obtain ⟨a0, a1, a2, a3, a4⟩ := ivs_at l i x hi
  have hil : i < l.length := by
   rcases Nat.lt_or_ge i l.length with h | h
   ·exact h
   ·rw [List.getElem?_eq_none h] at hi; cases hi
  have key : ∀ j u, j < n * 5 → (ivs l)[j]? = some u → w.cell? ⟨g, j, none⟩ = some u := by
   intro j u hj hu
   rw [Blk.cell hg j]
   rw [← htake, List.getElem?_take_of_lt hj] at hu
   simpa using hu
  rw [Nat.zero_add]
  exact ⟨key _ _ (by omega) a0, key _ _ (by omega) a1, key _ _ (by omega) a2, key _ _ (by omega) a3, key _ _ (by omega) a4⟩
end
theorem infoIV : (Tryz.prog.info? 53).map (fun i => (i.zero, i.size, i.bytes)) = some (some (.agg #[.int .u32 0, .int .i64 0, .int .u64 0, .int .u32 0, .slice none 0 0]), 5, 56) := by kernel_rfl
section
variable {w : World} {S T : Nat → Prop}
theorem run_appIV (ty : TypeId) (v : Value) (n : Nat) (l : List IV) (h : OwIV w S T v n l) (g c : Nat) (x : IV) (hx : Blk w g 53 #[.int .u32 (x.t : Int), .int .i64 x.p.k, .int .u64 (x.p.s : Int), .int .u32 (x.p.x : Int), .slice x.p.A x.p.n x.p.c]) (hxi : x.In w T) (hb : (n + 1) * 56 ≤ 140737488355328) :
  ∃ v' w', (Builtin.append_ #[27, 27] ty #[v, .slice (some ⟨g, 0, none⟩) 1 c]).run Tryz.prog w = .ok v' w' ∧ OwIV w' (fun b => S b ∨ w.heap.size ≤ b) (fun b => T b ∧ b < w.heap.size) v' (n + 1) (l ++ [x]) ∧ w.grownBy w' v.ownBlock := by
 obtain ⟨i0, hi, hz0, hz1, hz2⟩ := info_parts infoIV
 have hin : ∀ w', w.grownBy w' v.ownBlock → ∀ y ∈ l ++ [x], y.In w' (fun b => T b ∧ b < w.heap.size) := by
  intro w' hg y hy
  have hyi : y.In w T := by
   rcases List.mem_append.1 hy with hy | hy
   ·exact h.2.1 y hy
   ·rw [List.mem_singleton] at hy; subst hy; exact hxi
  have hf : Fr w w' (fun b => v.ownBlock = some b) := (Fr.refl w _).grown hg fun k hk => Or.inl hk
  exact (hyi.mono (S' := fun b => T b ∧ b < w.heap.size) fun b hlt hb => ⟨hb, hlt⟩).keep hf fun b hb hk => h.2.2.2 b hk hb.1
 have hcells : ∀ j u, (ivs [x])[j]? = some u → w.cell? ((⟨g, 0, none⟩ : Addr).add j) = some u := by
  intro j u hu
  rw [add_head, hx.cell j]
  simpa [ivs] using hu
 obtain ⟨v', w', h1, h2, h3, _, h5⟩ := run_append_own_at (P := Tryz.prog) w 0 27 ty 53 i0 (.agg #[.int .u32 0, .int .i64 0, .int .u64 0, .int .u32 0, .slice none 0 0]) 5 56 Tryz.underlying27 hi hz0 hz1 hz2 (by decide) (by decide) v n (ivs l) h.1 ⟨g, 0, none⟩ 1 c (ivs [x])
  (by rw [ivs_len]; rfl) hcells (ivs_one [x]) (by simp only [maxLen]; omega) hb (Nat.zero_le _)
 rw [← ivs_append] at h2
 refine ⟨v', w', h1, ⟨h2, hin w' h3, fun q hq => ?_, fun q hq hT => ?_⟩, h3⟩
 ·rcases h5 with h5 | h5
  ·exact Or.inl (h.2.2.1 q (by rw [← h5]; exact hq))
  ·rw [h5] at hq
   injection hq with hq
   exact Or.inr (by omega)
 ·rcases h5 with h5 | h5
  ·exact h.2.2.2 q (by rw [← h5]; exact hq) hT.1
  ·rw [h5] at hq
   injection hq with hq
   have := hT.2
   omega
variable {ops : Array Oper} {rest : List Oper} {o : Oper} {a : Act} {Q : Exit → Act → World → Prop}
theorem wpList_appIV (hgd : o.guard = none) (s x : Operand) (ho : o.op = .call { callee := .builtin .append, args := #[s, x], argTypes := #[27, 27] })
  (v : Value) (n : Nat) (l : List IV) (hs : a.eval s = v) (h : OwIV w S T v n l) (g c : Nat) (y : IV) (hx : a.eval x = .slice (some ⟨g, 0, none⟩) 1 c) (hy : Blk w g 53 #[.int .u32 (y.t : Int), .int .i64 y.p.k, .int .u64 (y.p.s : Int), .int .u32 (y.p.x : Int), .slice y.p.A y.p.n y.p.c]) (hyi : y.In w T) (hb : (n + 1) * 56 ≤ 140737488355328)
  (hK : ∀ v' w', OwIV w' (fun b => S b ∨ w.heap.size ≤ b) (fun b => T b ∧ b < w.heap.size) v' (n + 1) (l ++ [y]) → w.grownBy w' v.ownBlock → wpList Tryz.prog ops Q rest (a.put o.dst v') w') : wpList Tryz.prog ops Q (o :: rest) a w := by
 refine wpList_plain hgd fun K hk => ?_
 obtain ⟨v', w', hrun, h2, h3⟩ := run_appIV o.type v n l h g c y hy hyi hb
 unfold Oper.wp execOp
 simp only [ho, resolve, invoke, builtin, Sem.run_bind, Sem.run_pure, Result.andThen_ok, List.map_toArray, List.map_cons, List.map_nil, hs, hx, hrun]
 exact hk _ _ (hK v' w' h2 h3)
end
end Go.Proofs.YtdhgbkibbileiaaGreat
