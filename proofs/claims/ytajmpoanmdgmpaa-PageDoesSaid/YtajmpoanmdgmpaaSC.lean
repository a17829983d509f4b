/-
  ROWS OF CELLS, CELL BY CELL: a store into one, a copy within one; slices.overlaps.
-/
import Derived.Test.YtajmpoanmdgmpaaPI
import Derived.Test.YtajmpoanmdgmpaaPR
import Derived.Test.YtajmpoanmdgmpaaPJ
import Derived.Lib.Overlaps
import Derived.Laws.Externs
import Derived.Laws.CopyRow
namespace Go.Proofs.Ytajmpoanmdgmpaa
open Go.RowKit

/-- the row of n elements in block g, its cells -/
def RowC (w : World) (g n cap : Nat) (cs : List Value) : Prop :=
  ∃ cur : Array Value, w.heap[g]? = some (.cells cur 58 (0, 0)) ∧ n ≤ cap ∧ cap ≤ maxLen ∧ cur.size = cap * 3 ∧ cur.toList.take (n * 3) = cs
section
variable {w w' : World} {S T T' : Nat → Prop} {g n cap : Nat} {cs : List Value} {l : List CV}
theorem RowC.len (h : RowC w g n cap cs) : cs.length = n * 3 := by
  obtain ⟨cur, _, h1, _, h3, h4⟩ := h
  rw [← h4, List.length_take, Array.length_toList, h3]
  omega
theorem RowC.keep (h : RowC w g n cap cs) (hb : w'.heap[g]? = w.heap[g]?) : RowC w' g n cap cs := by
  obtain ⟨cur, a, b⟩ := h
  exact ⟨cur, hb.trans a, b⟩
theorem RowC.lt (h : RowC w g n cap cs) : g < w.heap.size := by
  obtain ⟨cur, a, _⟩ := h
  exact Blk.lt a
theorem RowC.cell (h : RowC w g n cap cs) {j : Nat} (hj : j < n * 3) : w.cell? ⟨g, j, none⟩ = cs[j]? := by
  obtain ⟨cur, a, b, c, d, e⟩ := h
  rw [Blk.cell a j, ← e, List.getElem?_take_of_lt hj]
  simp
theorem RowC.frozen (h : RowC w g n cap cs) (j : Nat) : w.frozen? ⟨g, j, none⟩ = false := by
  obtain ⟨cur, a, _⟩ := h
  exact Blk.frozen a j
theorem RowC.set (h : RowC w g n cap cs) (j : Nat) (u : Value) : RowC (w.setCell ⟨g, j, none⟩ u) g n cap (cs.set j u) := by
  obtain ⟨cur, a, b, c, d, e⟩ := h
  refine ⟨cur.setIfInBounds j u, Blk.set_ a _ _, b, c, by simpa using d, ?_⟩
  rw [Array.toList_setIfInBounds, List.take_set, e]
theorem OwC.row {v : Value} (h : OwC w S T v n l) (h0 : 0 < n) : ∃ g cap, v = .slice (some ⟨g, 0, none⟩) n cap ∧ RowC w g n cap (ccs l) ∧ S g ∧ ¬ T g := by
  obtain ⟨⟨h1, h2⟩, h3, h4, h5⟩ := h
  rcases h2 with ⟨rfl, h6⟩ | ⟨g, cap, cur, rfl, hg0, hh, hc, hm, hcur, htake⟩
  · omega
  · exact ⟨g, cap, rfl, ⟨cur, hh, hc, hm, hcur, htake⟩, h4 g rfl, h5 g rfl⟩
theorem RowC.ow (h : RowC w g n cap (ccs l)) (hl : ∀ x ∈ l, x.In w T) (hS : S g) (hT : ¬ T g) : OwC w S T (.slice (some ⟨g, 0, none⟩) n cap) n l := by
  have hlen := h.len
  obtain ⟨cur, a, b, c, d, e⟩ := h
  exact ⟨⟨hlen, Or.inr ⟨g, cap, cur, rfl, Nat.zero_le _, a, b, c, d, e⟩⟩, hl, fun k hk => by simp [Value.ownBlock] at hk; rw [← hk]; exact hS, fun k hk => by simp [Value.ownBlock] at hk; rw [← hk]; exact hT⟩
end
theorem ccs_set0 (l : List CV) : ∀ (k : Nat) (x : CV) (u : Bool), l[k]? = some x → (ccs l).set (k * 3) (.bool u) = ccs (l.set k { x with u := u }) := by
  induction l with
  | nil => intro k x u h; simp at h
  | cons v r ih =>
    intro k x u h
    cases k with
    | zero => simp at h; subst h; rfl
    | succ k =>
      simp at h
      have := ih k x u h
      simp only [ccs, show (k + 1) * 3 = (k * 3) + 1 + 1 + 1 by omega, List.set_cons_succ, this]
theorem ccs_set1 (l : List CV) : ∀ (k : Nat) (x : CV) (t : Nat), l[k]? = some x → (ccs l).set (k * 3 + 1) (.int .u32 (t : Int)) = ccs (l.set k { x with k := t }) := by
  induction l with
  | nil => intro k x t h; simp at h
  | cons v r ih =>
    intro k x t h
    cases k with
    | zero => simp at h; subst h; rfl
    | succ k =>
      simp at h
      have := ih k x t h
      simp only [ccs, show (k + 1) * 3 + 1 = (k * 3 + 1) + 1 + 1 + 1 by omega, List.set_cons_succ, this]
theorem ccs_set3 (l : List CV) (k : Nat) (y : CV) (hk : k < l.length) : (((ccs l).set (k * 3) (.bool y.u)).set (k * 3 + 1) (.int .u32 (y.k : Int))).set (k * 3 + 2) (.slice y.A y.m y.c) = ccs (l.set k y) := by
  have hx : l[k]? = some l[k] := List.getElem?_eq_getElem hk
  rw [ccs_set0 l k l[k] y.u hx]
  rw [ccs_set1 _ k { l[k] with u := y.u } y.k (by rw [List.getElem?_set_self hk])]
  rw [ccs_set _ k { l[k] with u := y.u, k := y.k } y.A y.m y.c y.d (by rw [List.getElem?_set_self (by simpa using hk)])]
  simp
section
variable {w : World} {S T T' : Nat → Prop} {n cap g : Nat} {l : List CV}
/-- one cell of an own row is another one -/
theorem OwC.put3 (h : OwC w S T (.slice (some ⟨g, 0, none⟩) n cap) n l) {k : Nat} (hk : k < n) (y : CV) (hy : y.In w T') (hT : ∀ b, b < w.heap.size → T b → T' b) (hg : ¬ T' g) :
    OwC (((w.setCell ⟨g, k * 3, none⟩ (.bool y.u)).setCell ⟨g, k * 3 + 1, none⟩ (.int .u32 (y.k : Int))).setCell ⟨g, k * 3 + 2, none⟩ (.slice y.A y.m y.c)) S T' (.slice (some ⟨g, 0, none⟩) n cap) n (l.set k y) := by
  have hlen := h.len
  obtain ⟨g', cap', e, hr, hS, _⟩ := h.row (by omega)
  injection e with e1 _ e3
  injection e1 with e1
  injection e1 with e1
  subst e1 e3
  have hr2 := ((hr.set (k * 3) (.bool y.u)).set (k * 3 + 1) (.int .u32 (y.k : Int))).set (k * 3 + 2) (.slice y.A y.m y.c)
  rw [ccs_set3 l k y (by omega)] at hr2
  have hfr : Fr w (((w.setCell ⟨g, k * 3, none⟩ (.bool y.u)).setCell ⟨g, k * 3 + 1, none⟩ (.int .u32 (y.k : Int))).setCell ⟨g, k * 3 + 2, none⟩ (.slice y.A y.m y.c)) (fun b => b = g) := fr_set (fr_set (fr_set (Fr.refl _ _) _ _) _ _) _ _
  refine hr2.ow (fun z hz => ?_) hS hg
  have hzi : z.In w T' := by
    rcases List.mem_or_eq_of_mem_set hz with hz | rfl
    · exact (h.2.1 z hz).mono hT
    · exact hy
  exact hzi.keep hfr fun b hb e => hg (e ▸ hb)
/-- .. its Killer alone -/
theorem OwC.put1 (h : OwC w S T (.slice (some ⟨g, 0, none⟩) n cap) n l) {k : Nat} {x : CV} (hx : l[k]? = some x) (t : Nat) (ht : t < 4294967296) :
    OwC (w.setCell ⟨g, k * 3 + 1, none⟩ (.int .u32 (t : Int))) S T (.slice (some ⟨g, 0, none⟩) n cap) n (l.set k { x with k := t }) := by
  have hlen := h.len
  have hkl : k < l.length := by
    rcases Nat.lt_or_ge k l.length with h | h
    · exact h
    · rw [List.getElem?_eq_none h] at hx; cases hx
  obtain ⟨g', cap', e, hr, hS, hT⟩ := h.row (by omega)
  injection e with e1 _ e3
  injection e1 with e1
  injection e1 with e1
  subst e1 e3
  have hr2 := hr.set (k * 3 + 1) (.int .u32 (t : Int))
  rw [ccs_set1 l k x t hx] at hr2
  have hfr : Fr w (w.setCell ⟨g, k * 3 + 1, none⟩ (.int .u32 (t : Int))) (fun b => b = g) := fr_set (Fr.refl _ _) _ _
  refine hr2.ow (fun z hz => ?_) hS hT
  have hzi : z.In w T := by
    rcases List.mem_or_eq_of_mem_set hz with hz | rfl
    · exact h.2.1 z hz
    · have h9 := h.2.1 x (List.mem_of_getElem? hx)
      exact ⟨h9.b, ht, h9.mc, h9.ml, h9.nz⟩
  exact hzi.keep hfr fun b hb e => hT (e ▸ hb)
/-- .. the last one is left away -/
theorem OwC.short (h : OwC w S T (.slice (some ⟨g, 0, none⟩) n cap) n l) {m : Nat} (hm : m ≤ n) : OwC w S T (.slice (some ⟨g, 0, none⟩) m cap) m (l.take m) := by
  obtain ⟨⟨h1, h2⟩, h3, h4, h5⟩ := h
  rcases h2 with ⟨e, h6⟩ | ⟨g', cap', cur, e, hg0, hh, hc, hmm, hcur, htake⟩
  · injection e with e; cases e
  · injection e with e1 _ e3
    injection e1 with e1
    injection e1 with e1
    subst e1 e3
    have hcc : ccs (l.take m) = (ccs l).take (m * 3) := by
      have h7 : ccs l = ccs (l.take m) ++ ccs (l.drop m) := by rw [← ccs_append, List.take_append_drop]
      have h8 : (ccs (l.take m)).length = m * 3 := by
        rw [ccs_len, List.length_take]
        rw [ccs_len] at h1
        omega
      rw [h7, List.take_left' h8]
    refine ⟨⟨by rw [hcc, List.length_take, h1]; omega, Or.inr ⟨g, cap, cur, rfl, hg0, hh, by omega, hmm, hcur, ?_⟩⟩, fun x hx => h3 x (List.mem_of_mem_take hx), fun k hk => h4 k (by simpa [Value.ownBlock] using hk), fun k hk => h5 k (by simpa [Value.ownBlock] using hk)⟩
    rw [hcc, ← htake, List.take_take]
    congr 1
    omega
end
end Go.Proofs.Ytajmpoanmdgmpaa
