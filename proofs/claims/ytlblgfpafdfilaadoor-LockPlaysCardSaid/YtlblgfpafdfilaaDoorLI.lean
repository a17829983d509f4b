/-
STAGE 12: rows of the call's own, of whatever element; append onto them.
-/
import Derived.Test.YtlblgfpafdfilaaDoorLD
namespace Go.Proofs.YtlblgfpafdfilaaDoor
open Go.RowKit

/-- what is known of an element's type e, and of the type t of slices of it -/
structure Kind (t e : TypeId) (size bytes : Nat) (z : Value) : Prop where
  und : Tryd.prog.underlying t = some (.slice e)
  inf : (Tryd.prog.info? e).map (fun i => (i.zero, i.size, i.bytes)) = some (some z, size, bytes)
  zs : z.cells.size = size
  pos : 0 < size
theorem K46 : Kind 27 46 7 64 (.agg #[.int .u32 0, .bool false, .int .u32 0, .string ⟨#[]⟩, .string ⟨#[]⟩, .int .i64 0, .bool false]) := ⟨Tryd.underlying27, by kernel_rfl, by decide, by decide⟩
theorem K34 : Kind 49 34 1 4 (.int .u32 0) := ⟨Tryd.underlying49, by kernel_rfl, by decide, by decide⟩
theorem K3 : Kind 61 3 1 8 (.int .i64 0) := ⟨Tryd.underlying61, by kernel_rfl, by decide, by decide⟩
theorem K47 : Kind 40 47 2 8 (.agg #[.int .u32 0, .int .u32 0]) := ⟨Tryd.underlying40, by kernel_rfl, by decide, by decide⟩

section
variable {α : Type} {f : α → List Value} {k : Nat}
theorem flat_len (hk : ∀ x, (f x).length = k) : ∀ l : List α, (l.flatMap f).length = l.length * k
  | [] => by simp
  | x :: r => by rw [List.flatMap_cons, List.length_append, hk, flat_len hk r, List.length_cons, Nat.add_mul, Nat.one_mul]; omega
theorem flat_at (hk : ∀ x, (f x).length = k) : ∀ (l : List α) (i : Nat) (x : α) (j : Nat), l[i]? = some x → j < k → (l.flatMap f)[i * k + j]? = (f x)[j]?
  | [], i, x, j, h, _ => by simp at h
  | y :: r, 0, x, j, h, hj => by
    simp at h
    subst h
    rw [List.flatMap_cons, Nat.zero_mul, Nat.zero_add, List.getElem?_append_left (by rw [hk]; exact hj)]
  | y :: r, i + 1, x, j, h, hj => by
    simp at h
    rw [List.flatMap_cons, List.getElem?_append_right (by rw [hk, Nat.add_mul, Nat.one_mul]; omega), hk, show (i + 1) * k + j - k = i * k + j by rw [Nat.add_mul, Nat.one_mul]; omega]
    exact flat_at hk r i x j h hj
theorem flat_one (h1 : ∀ x, ∀ u ∈ f x, u.oneCell' = true) (l : List α) : ∀ u ∈ l.flatMap f, u.oneCell' = true := by
  intro u hu
  obtain ⟨x, _, hx⟩ := List.mem_flatMap.1 hu
  exact h1 x u hx
end
/-- v is a row of the call's own that reads as l -/
def OwR {α : Type} (w : World) (e : TypeId) (k : Nat) (f : α → List Value) (v : Value) (l : List α) : Prop := w.ownsRow 0 e k v l.length (l.flatMap f)
section
variable {α : Type} {f : α → List Value} {k : Nat} {w w' : World} {e : TypeId} {v : Value} {l : List α} {U : Nat → Prop}
theorem OwR.nil_ (w : World) (e : TypeId) (k : Nat) (f : α → List Value) : OwR w e k f (.slice none 0 0) [] := World.ownsRow_nil w 0 e k
theorem OwR.keep (h : OwR w e k f v l) (hf : Fr w w' U) (hd : ∀ b, v.ownBlock = some b → ¬ U b) : OwR w' e k f v l := by
  obtain ⟨h1, h2⟩ := h
  refine ⟨h1, ?_⟩
  rcases h2 with h2 | ⟨g, cap, cur, hv, hg, hh, r⟩
  · exact Or.inl h2
  · exact Or.inr ⟨g, cap, cur, hv, hg, (hf.block g (Blk.lt hh) (hd g (by rw [hv]; rfl))).trans hh, r⟩
theorem OwR.up (h : OwR w e k f v l) (hb : Below w.heap.size w w') : OwR w' e k f v l := h.keep (Fr.of_below hb No) fun _ _ hn => hn
theorem OwR.lt (h : OwR w e k f v l) {b : Nat} (hb : v.ownBlock = some b) : b < w.heap.size := (World.ownsRow.lt h b hb).2
theorem OwR.form (h : OwR w e k f v l) : ∃ A c, v = .slice A l.length c ∧ l.length ≤ c ∧ c ≤ maxLen ∧ (A = none → l.length = 0) ∧ (∀ ad, A = some ad → ∃ b, ad = ⟨b, 0, none⟩ ∧ v.ownBlock = some b ∧ b < w.heap.size) := by
  rcases h.2 with ⟨rfl, h0⟩ | ⟨g, cap, cur, rfl, _, hg, hc, hm, _⟩
  · exact ⟨none, 0, by rw [h0], by omega, Nat.zero_le _, fun _ => h0, fun ad e => by cases e⟩
  · exact ⟨_, _, rfl, hc, hm, (fun e => by cases e), fun ad e => ⟨g, (Option.some.inj e).symm, rfl, Blk.lt hg⟩⟩
theorem OwR.at_ (h : OwR w e k f v l) (hk : ∀ x, (f x).length = k) {i : Nat} {x : α} (hi : l[i]? = some x) : ∃ b c, v = .slice (some ⟨b, 0, none⟩) l.length c ∧ b < w.heap.size ∧ ∀ j u, (f x)[j]? = some u → w.cell? ⟨b, i * k + j, none⟩ = some u := by
  have hil := (List.getElem?_eq_some_iff.1 hi).1
  rcases h.2 with ⟨rfl, h0⟩ | ⟨g, cap, cur, rfl, _, hg, hc, hm, _⟩
  · omega
  · refine ⟨g, cap, rfl, Blk.lt hg, fun j u hj => ?_⟩
    have hjk : j < k := by rw [← hk x]; exact (List.getElem?_eq_some_iff.1 hj).1
    have hm : (i + 1) * k ≤ l.length * k := Nat.mul_le_mul_right k hil
    rw [Nat.add_mul, Nat.one_mul] at hm
    rw [World.ownsRow.cellAt h _ (by omega), flat_at hk l i x j hi hjk, hj]
theorem flat_set (hk : ∀ x, (f x).length = k) (y : α) (j : Nat) (u : Value) (hj : j < k) : ∀ (l : List α) (i : Nat) (x : α), l[i]? = some x → (f y) = (f x).set j u → (l.flatMap f).set (i * k + j) u = (l.set i y).flatMap f
  | [], i, x, h, _ => by simp at h
  | z :: r, 0, x, h, e => by
    simp at h
    subst h
    rw [List.flatMap_cons, Nat.zero_mul, Nat.zero_add, List.set_append_left _ _ (by rw [hk]; exact hj), List.set_cons_zero, List.flatMap_cons, e]
  | z :: r, i + 1, x, h, e => by
    simp at h
    rw [List.flatMap_cons, List.set_append_right _ _ (by rw [hk, Nat.add_mul, Nat.one_mul]; omega), hk, show (i + 1) * k + j - k = i * k + j by rw [Nat.add_mul, Nat.one_mul]; omega, flat_set hk y j u hj r i x h e, List.set_cons_succ, List.flatMap_cons]
/-- one cell of an element is set -/
theorem OwR.set_ {b c : Nat} (h : OwR w e k f (.slice (some ⟨b, 0, none⟩) l.length c) l) (hk : ∀ x, (f x).length = k) {i j : Nat} {x y : α} {u : Value} (hi : l[i]? = some x) (hj : j < k) (hy : f y = (f x).set j u) :
    OwR (w.setCell ⟨b, i * k + j, none⟩ u) e k f (.slice (some ⟨b, 0, none⟩) l.length c) (l.set i y) := by
  have := (World.ownsRow.stored h (i * k + j) u).1
  rw [flat_set hk y j u hj l i x hi hy] at this
  unfold OwR
  rw [List.length_set]
  exact this
theorem OwR.frozen {b c n : Nat} (h : OwR w e k f (.slice (some ⟨b, 0, none⟩) n c) l) (j : Nat) : w.frozen? ⟨b, j, none⟩ = false := by
  obtain ⟨A, c', e', _⟩ := h.form
  injection e' with e1 e2 e3
  subst e2
  exact World.ownsRow.frozenAt h j
end

section
variable {α : Type} {f : α → List Value} {w : World} {t e : TypeId} {size bytes : Nat} {z : Value}
set_option maxRecDepth 100000 in
theorem run_appR (K : Kind t e size bytes z) (hk : ∀ x, (f x).length = size) (hone : ∀ x, ∀ u ∈ f x, u.oneCell' = true) (ty : TypeId) (v : Value) (l : List α) (h : OwR w e size f v l) (A : Option Addr) (m c : Nat) (ks : List α) (hm : ks.length = m)
    (hr : ∀ i x j u, ks[i]? = some x → (f x)[j]? = some u → ∃ ad, A = some ad ∧ w.cell? (ad.add (i * size + j)) = some u) (hb : (l.length + m) * bytes ≤ 140737488355328) (hle : l.length + m ≤ 140737488355328) :
    ∃ v' w', (Builtin.append_ #[t, t] ty #[v, .slice A m c]).run Tryd.prog w = .ok v' w' ∧ OwR w' e size f v' (l ++ ks) ∧ w.grownBy w' v.ownBlock ∧ (v'.ownBlock = v.ownBlock ∨ v'.ownBlock = some w.heap.size) := by
  obtain ⟨i0, hi, hz0, hz1, hz2⟩ := info_parts K.inf
  rcases A with _ | ad
  · have h0 : ks = [] := by
      rcases ks with _ | ⟨x, r⟩
      · rfl
      · have hx : 0 < (f x).length := by rw [hk]; exact K.pos
        obtain ⟨_, e, _⟩ := hr 0 x 0 (f x)[0] rfl (List.getElem?_eq_getElem hx)
        cases e
    subst h0
    simp at hm
    subst hm
    refine ⟨v, w, ?_, by rw [List.append_nil]; exact h, World.grownBy.refl w _, Or.inl rfl⟩
    rcases h.2 with ⟨rfl, _⟩ | ⟨g, cap, cur, rfl, _, _, hnc, _⟩
    · simp [Builtin.append_, run_underlying K.und, sizeOf, typeInfo, hi, Builtin.lenOf, Builtin.firstCells]
    · simp [Builtin.append_, run_underlying K.und, sizeOf, typeInfo, hi, Builtin.lenOf, Builtin.firstCells, hnc, storeCells]
  · have hcells : ∀ j u, (ks.flatMap f)[j]? = some u → w.cell? (ad.add j) = some u := by
      intro j u hj
      have hjl := (List.getElem?_eq_some_iff.1 hj).1
      rw [flat_len hk] at hjl
      have hq : j / size < ks.length := (Nat.div_lt_iff_lt_mul K.pos).2 hjl
      have hx : ks[j / size]? = some ks[j / size] := List.getElem?_eq_getElem hq
      have hd : j / size * size + j % size = j := Nat.div_add_mod' j size
      have := flat_at hk ks (j / size) _ (j % size) hx (Nat.mod_lt _ K.pos)
      rw [hd, hj] at this
      obtain ⟨ad', e', hc⟩ := hr (j / size) _ (j % size) u hx this.symm
      injection e' with e'
      subst e'
      rwa [hd] at hc
    obtain ⟨v', w', h1, h2, h3, _, h5⟩ := run_append_own_at (P := Tryd.prog) w 0 t ty e i0 z size bytes K.und hi hz0 hz1 hz2 K.zs K.pos v l.length (l.flatMap f) h ad m c (ks.flatMap f)
      (by rw [flat_len hk, hm]) hcells (flat_one hone ks) (by simp only [maxLen]; omega) hb (Nat.zero_le _)
    refine ⟨v', w', h1, ?_, h3, h5⟩
    unfold OwR
    rw [List.flatMap_append, List.length_append, hm]
    exact h2
variable {ops : Array Oper} {rest : List Oper} {o : Oper} {a : Act} {Q : Exit → Act → World → Prop}
set_option maxRecDepth 100000 in
theorem wpList_appR (K : Kind t e size bytes z) (hk : ∀ x, (f x).length = size) (hone : ∀ x, ∀ u ∈ f x, u.oneCell' = true) (hgd : o.guard = none) (s x : Operand) (ho : o.op = .call { callee := .builtin .append, args := #[s, x], argTypes := #[t, t] })
    (v : Value) (l : List α) (hs : a.eval s = v) (h : OwR w e size f v l) (A : Option Addr) (m c : Nat) (ks : List α) (hx : a.eval x = .slice A m c) (hm : ks.length = m)
    (hr : ∀ i x j u, ks[i]? = some x → (f x)[j]? = some u → ∃ ad, A = some ad ∧ w.cell? (ad.add (i * size + j)) = some u) (hb : (l.length + m) * bytes ≤ 140737488355328) (hle : l.length + m ≤ 140737488355328)
    (hK : ∀ v' w', OwR w' e size f v' (l ++ ks) → w.grownBy w' v.ownBlock → (v'.ownBlock = v.ownBlock ∨ v'.ownBlock = some w.heap.size) → wpList Tryd.prog ops Q rest (a.put o.dst v') w') : wpList Tryd.prog ops Q (o :: rest) a w := by
  refine wpList_plain hgd fun K' hk' => ?_
  obtain ⟨v', w', hrun, h2, h3, h4⟩ := run_appR K hk hone o.type v l h A m c ks hm hr hb hle
  unfold Oper.wp execOp
  simp only [ho, resolve, invoke, builtin, Sem.run_bind, Sem.run_pure, Result.andThen_ok, List.map_toArray, List.map_cons, List.map_nil, hs, hx, hrun]
  exact hk' _ _ (hK v' w' h2 h3 h4)
end
def lf (l : LK) : List Value := [.int .u32 (l.t : Int), .bool l.x.r, .int .u32 (l.x.i : Int), .string l.x.a, .string l.x.b, .int .i64 l.m, .bool l.h]
theorem lf_len (l : LK) : (lf l).length = 7 := rfl
theorem lf_one (l : LK) : ∀ u ∈ lf l, u.oneCell' = true := by
  intro u hu
  simp only [lf, List.mem_cons, List.not_mem_nil, or_false] at hu
  rcases hu with rfl | rfl | rfl | rfl | rfl | rfl | rfl <;> rfl
def uf (x : Nat) : List Value := [.int .u32 (x : Int)]
theorem uf_len (x : Nat) : (uf x).length = 1 := rfl
theorem uf_one (x : Nat) : ∀ u ∈ uf x, u.oneCell' = true := by intro u hu; rw [List.mem_singleton.1 hu]; rfl
def nf (x : Nat) : List Value := [.int .i64 (x : Int)]
theorem nf_len (x : Nat) : (nf x).length = 1 := rfl
theorem nf_one (x : Nat) : ∀ u ∈ nf x, u.oneCell' = true := by intro u hu; rw [List.mem_singleton.1 hu]; rfl
def pf (x : Nat × Nat) : List Value := [.int .u32 (x.1 : Int), .int .u32 (x.2 : Int)]
theorem pf_len (x : Nat × Nat) : (pf x).length = 2 := rfl
theorem pf_one (x : Nat × Nat) : ∀ u ∈ pf x, u.oneCell' = true := by
  intro u hu
  simp only [pf, List.mem_cons, List.not_mem_nil, or_false] at hu
  rcases hu with rfl | rfl <;> rfl
/-- a table, whose row is its own -/
structure TB (w : World) (g : Nat) (v : Value) (ls : List LK) : Prop where
  blk : Blk w g 29 #[v]
  own : OwR w 46 7 lf v ls
  ok : ∀ l ∈ ls, l.Ok
  few : ls.length ≤ 16384
  g2 : 2 ≤ g
  v2 : ∀ b, v.ownBlock = some b → 2 ≤ b
theorem TB.tr {w : World} {g : Nat} {v : Value} {ls : List LK} (h : TB w g v ls) : ∃ A c, v = .slice A ls.length c ∧ c ≤ maxLen ∧ (A = none → ls = []) ∧ TR w g A c ls := by
  obtain ⟨A, c, rfl, hc, hm, h0, _⟩ := h.own.form
  refine ⟨A, c, rfl, hm, fun e => List.eq_nil_of_length_eq_zero (h0 e), h.blk, fun i l hi => ?_, h.ok, h.few, hc⟩
  obtain ⟨b, c', e, _, hat⟩ := h.own.at_ lf_len hi
  injection e with e1 e2 e3
  exact ⟨b, e1, hat 0 _ rfl, hat 1 _ rfl, hat 2 _ rfl, hat 3 _ rfl, hat 4 _ rfl, hat 5 _ rfl, hat 6 _ rfl⟩
theorem TB.up {w w' : World} {g : Nat} {v : Value} {ls : List LK} (h : TB w g v ls) (hb : Below w.heap.size w w') : TB w' g v ls :=
  ⟨h.blk.below hb h.blk.lt, h.own.up hb, h.ok, h.few, h.g2, h.v2⟩
theorem TB.ne {w : World} {g : Nat} {v : Value} {ls : List LK} (h : TB w g v ls) : v.ownBlock ≠ some g := fun e => Blk.own_ne h.blk h.own (by decide) e.symm
end Go.Proofs.YtlblgfpafdfilaaDoor
