/-
WORDS FOR STAGE 7: cells and pages in memory.
-/
import Derived.Test.YtcajidlekfkjlaaPMath
import Derived.Test.YtcajidlekfkjlaaBase
import Derived.Lib.Small
namespace Go.Proofs.Ytcajidlekfkjlaa
open Go.RowKit

def All : Nat → Prop := fun _ => True
set_option maxRecDepth 100000 in
theorem strOf_toList (l : List Nat) : (strOf l).toList = u8l l := by
  rw [ByteArray.toList_eq]
  simp [strOf, u8l]
set_option maxRecDepth 100000 in
theorem run_neqs (a b : ByteArray) : binOp .neq 9 (.string a) (.string b) = pure (.bool (!(a.toList == b.toList))) := binOp_string_neq 9 a b
/-- a cell in memory -/
structure CV where
  u : Bool
  k : Nat
  A : Option Addr
  m : Nat
  c : Nat
  d : List Nat
def CV.e (x : CV) : CE := ⟨x.u, x.k, x.d⟩
def CV.agg (x : CV) : Value := .agg #[.bool x.u, .int .u32 (x.k : Int), .slice x.A x.m x.c]
structure CV.In (w : World) (T : Nat → Prop) (x : CV) : Prop where
  b : RB w T x.A x.m x.d
  k : x.k < 4294967296
  mc : x.m ≤ x.c
  ml : x.m ≤ 9223372036854775807
  nz : x.A = none → x.c = 0
def ccs : List CV → List Value
  | [] => []
  | v :: r => .bool v.u :: .int .u32 (v.k : Int) :: .slice v.A v.m v.c :: ccs r
set_option maxRecDepth 100000 in
theorem ccs_len (vs : List CV) : (ccs vs).length = vs.length * 3 := by
  induction vs with
  | nil => rfl
  | cons v r ih => simp [ccs, ih]; omega
set_option maxRecDepth 100000 in
theorem ccs_append (a b : List CV) : ccs (a ++ b) = ccs a ++ ccs b := by
  induction a with
  | nil => rfl
  | cons v r ih => simp [ccs, ih]
set_option maxRecDepth 100000 in
theorem ccs_one (vs : List CV) : ∀ u ∈ ccs vs, u.oneCell' = true := by
  induction vs with
  | nil => intro u hu; simp [ccs] at hu
  | cons v r ih =>
    intro u hu
    simp only [ccs, List.mem_cons] at hu
    rcases hu with rfl | rfl | rfl | hu
    · rfl
    · rfl
    · rfl
    · exact ih u hu
set_option maxRecDepth 100000 in
theorem ccs_at (vs : List CV) (i : Nat) (v : CV) (h : vs[i]? = some v) : (ccs vs)[i * 3]? = some (.bool v.u) ∧ (ccs vs)[i * 3 + 1]? = some (.int .u32 (v.k : Int)) ∧ (ccs vs)[i * 3 + 2]? = some (.slice v.A v.m v.c) := by
  induction vs generalizing i with
  | nil => simp at h
  | cons u r ih =>
    cases i with
    | zero => simp at h; subst h; simp [ccs]
    | succ i =>
      simp at h
      have := ih i h
      simp only [ccs, show (i + 1) * 3 = i * 3 + 1 + 1 + 1 by omega, show i * 3 + 1 + 1 + 1 + 1 = (i * 3 + 1) + 1 + 1 + 1 by omega, show i * 3 + 1 + 1 + 1 + 2 = (i * 3 + 2) + 1 + 1 + 1 by omega, List.getElem?_cons_succ]
      exact this
set_option maxRecDepth 100000 in
theorem ccs_of (vs : List CV) (j : Nat) (u : Value) (h : (ccs vs)[j]? = some u) : ∃ i v, vs[i]? = some v ∧ ((j = i * 3 ∧ u = .bool v.u) ∨ (j = i * 3 + 1 ∧ u = .int .u32 (v.k : Int)) ∨ (j = i * 3 + 2 ∧ u = .slice v.A v.m v.c)) := by
  have hl : j < (ccs vs).length := by
    rcases Nat.lt_or_ge j (ccs vs).length with h1 | h1
    · exact h1
    · rw [List.getElem?_eq_none h1] at h; cases h
  rw [ccs_len] at hl
  have hi : j / 3 < vs.length := by omega
  have hv : vs[j / 3]? = some vs[j / 3] := List.getElem?_eq_getElem hi
  obtain ⟨a, b, c⟩ := ccs_at vs _ _ hv
  refine ⟨j / 3, _, hv, ?_⟩
  have hr : j = j / 3 * 3 ∨ j = j / 3 * 3 + 1 ∨ j = j / 3 * 3 + 2 := by omega
  rcases hr with hr | hr | hr
  · left; refine ⟨hr, ?_⟩; rw [← hr] at a; rw [a] at h; injection h with h; exact h.symm
  · right; left; refine ⟨hr, ?_⟩; rw [← hr] at b; rw [b] at h; injection h with h; exact h.symm
  · right; right; refine ⟨hr, ?_⟩; rw [← hr] at c; rw [c] at h; injection h with h; exact h.symm
/-- a slice of cells reads as l: the row's block in S, the bytes' blocks in T -/
def CR (w : World) (S T : Nat → Prop) (A : Option Addr) (n : Nat) (l : List CV) : Prop :=
  l.length = n ∧ (∀ x ∈ l, x.In w T) ∧ n ≤ 9223372036854775807 ∧ (0 < n → ∃ g o, A = some ⟨g, o, none⟩ ∧ g < w.heap.size ∧ S g ∧ ∀ i x, l[i]? = some x →
    w.cell? ⟨g, o + i * 3, none⟩ = some (.bool x.u) ∧ w.cell? ⟨g, o + i * 3 + 1, none⟩ = some (.int .u32 (x.k : Int)) ∧ w.cell? ⟨g, o + i * 3 + 2, none⟩ = some (.slice x.A x.m x.c))
section
variable {w w' : World} {S T U S' T' : Nat → Prop} {A : Option Addr} {n : Nat} {l : List CV} {x : CV}
set_option maxRecDepth 100000 in
theorem CV.In.keep (h : x.In w T) (hf : Fr w w' U) (hd : ∀ b, T b → ¬ U b) : x.In w' T := ⟨h.b.keep hf hd, h.k, h.mc, h.ml, h.nz⟩
set_option maxRecDepth 100000 in
theorem CV.In.mono (h : x.In w T) (hd : ∀ b, b < w.heap.size → T b → T' b) : x.In w T' := ⟨h.b.mono hd, h.k, h.mc, h.ml, h.nz⟩
set_option maxRecDepth 100000 in
theorem CV.In.below (h : x.In w T) (hb : Below w.heap.size w w') : x.In w' T := h.keep (Fr.of_below hb No) fun _ _ hn => hn
set_option maxRecDepth 100000 in
theorem CV.In.len (h : x.In w T) : x.d.length = x.m := h.b.len
set_option maxRecDepth 100000 in
theorem CR.keep (h : CR w S T A n l) (hf : Fr w w' U) (hS : ∀ b, S b → ¬ U b) (hT : ∀ b, T b → ¬ U b) : CR w' S T A n l := by
  obtain ⟨h1, h2, h3, h4⟩ := h
  refine ⟨h1, fun x hx => (h2 x hx).keep hf hT, h3, fun hn => ?_⟩
  obtain ⟨g, o, e, hg, hs, hc⟩ := h4 hn
  refine ⟨g, o, e, Nat.lt_of_lt_of_le hg hf.size, hs, fun i x hi => ?_⟩
  have hb := hf.block g hg (hS g hs)
  obtain ⟨a, b, c⟩ := hc i x hi
  exact ⟨(World.cell?_of_block hb).trans a, (World.cell?_of_block hb).trans b, (World.cell?_of_block hb).trans c⟩
set_option maxRecDepth 100000 in
theorem CR.mono (h : CR w S T A n l) (hS : ∀ b, b < w.heap.size → S b → S' b) (hT : ∀ b, b < w.heap.size → T b → T' b) : CR w S' T' A n l := by
  obtain ⟨h1, h2, h3, h4⟩ := h
  refine ⟨h1, fun x hx => (h2 x hx).mono hT, h3, fun hn => ?_⟩
  obtain ⟨g, o, e, hg, hs, hc⟩ := h4 hn
  exact ⟨g, o, e, hg, hS g hg hs, hc⟩
set_option maxRecDepth 100000 in
theorem CR.below (h : CR w S T A n l) (hb : Below w.heap.size w w') : CR w' S T A n l := h.keep (Fr.of_below hb No) (fun _ _ hn => hn) fun _ _ hn => hn
set_option maxRecDepth 100000 in
theorem CR.at_ (h : CR w S T A n l) {k : Nat} (hk : k < n) : ∃ g o x, A = some ⟨g, o, none⟩ ∧ g < w.heap.size ∧ S g ∧ l[k]? = some x ∧ x.In w T ∧
    w.cell? ⟨g, o + k * 3, none⟩ = some (.bool x.u) ∧ w.cell? ⟨g, o + k * 3 + 1, none⟩ = some (.int .u32 (x.k : Int)) ∧ w.cell? ⟨g, o + k * 3 + 2, none⟩ = some (.slice x.A x.m x.c) := by
  obtain ⟨h1, h2, _, h4⟩ := h
  obtain ⟨g, o, e, hg, hs, hc⟩ := h4 (by omega)
  have hl : l[k]? = some l[k] := List.getElem?_eq_getElem (by omega)
  obtain ⟨a, b, c⟩ := hc k _ hl
  exact ⟨g, o, l[k], e, hg, hs, hl, h2 _ (List.getElem_mem _), a, b, c⟩
set_option maxRecDepth 100000 in
theorem CR.len (h : CR w S T A n l) : l.length = n := h.1
set_option maxRecDepth 100000 in
theorem CR.nil_ (A : Option Addr) : CR w S T A 0 [] := ⟨rfl, by simp, Nat.zero_le _, fun h => absurd h (by omega)⟩
end
/-- a page in memory -/
structure PV where
  k : Int
  s : Nat
  x : Nat
  A : Option Addr
  n : Nat
  c : Nat
  l : List CV
def PV.agg (p : PV) : Value := .agg #[.int .i64 p.k, .int .u64 (p.s : Int), .int .u32 (p.x : Int), .slice p.A p.n p.c]
def PV.es (p : PV) : List CE := p.l.map CV.e
structure PV.In (w : World) (S T : Nat → Prop) (p : PV) : Prop where
  r : CR w S T p.A p.n p.l
  nc : p.n ≤ p.c
  nz : p.A = none → p.c = 0
  k1 : -9223372036854775808 ≤ p.k
  k2 : p.k ≤ 9223372036854775807
  s : p.s < 18446744073709551616
  x : p.x < 4294967296
def PV.zero : PV := ⟨0, 0, 0, none, 0, 0, []⟩
section
variable {w w' : World} {S T U S' T' : Nat → Prop} {p : PV}
set_option maxRecDepth 100000 in
theorem PV.In.keep (h : p.In w S T) (hf : Fr w w' U) (hS : ∀ b, S b → ¬ U b) (hT : ∀ b, T b → ¬ U b) : p.In w' S T := ⟨h.r.keep hf hS hT, h.nc, h.nz, h.k1, h.k2, h.s, h.x⟩
set_option maxRecDepth 100000 in
theorem PV.In.mono (h : p.In w S T) (hS : ∀ b, b < w.heap.size → S b → S' b) (hT : ∀ b, b < w.heap.size → T b → T' b) : p.In w S' T' := ⟨h.r.mono hS hT, h.nc, h.nz, h.k1, h.k2, h.s, h.x⟩
set_option maxRecDepth 100000 in
theorem PV.In.below (h : p.In w S T) (hb : Below w.heap.size w w') : p.In w' S T := ⟨h.r.below hb, h.nc, h.nz, h.k1, h.k2, h.s, h.x⟩
set_option maxRecDepth 100000 in
theorem PV.In.all (h : p.In w S T) : p.In w All All := h.mono (fun _ _ _ => trivial) fun _ _ _ => trivial
set_option maxRecDepth 100000 in
theorem PV.In.len (h : p.In w S T) : p.es.length = p.n := by rw [PV.es, List.length_map]; exact h.r.1
end
set_option maxRecDepth 100000 in
theorem es_at {l : List CV} {i : Nat} {x : CV} (h : l[i]? = some x) : (l.map CV.e)[i]? = some x.e := by rw [List.getElem?_map, h]; rfl
set_option maxRecDepth 100000 in
theorem getD_at {l : List CE} {i : Nat} {x : CE} (h : l[i]? = some x) : l.getD i cz = x := by simp [List.getD, h]
set_option maxRecDepth 100000 in
theorem all_step {f : Nat → Bool} {k : Nat} (h : (List.range k).all f = true) (hf : f k = true) : (List.range (k + 1)).all f = true := by
  rw [all_rng] at h ⊢
  intro i hi
  rcases Nat.lt_or_ge i k with h' | h'
  · exact h i h'
  · obtain rfl : i = k := by omega
    exact hf
set_option maxRecDepth 100000 in
theorem all_stop {f : Nat → Bool} {k n : Nat} (hk : k < n) (hf : f k = false) : (List.range n).all f = false := by
  rw [Bool.eq_false_iff]
  intro h
  rw [all_rng] at h
  rw [h k hk] at hf
  cases hf
set_option maxRecDepth 100000 in
theorem take_all {l : List CE} {f : CE → Bool} {k : Nat} {x : CE} (h : l[k]? = some x) (ha : (l.take k).all f = true) (hf : f x = true) : (l.take (k + 1)).all f = true := by
  have hk : k < l.length := by
    rcases Nat.lt_or_ge k l.length with h' | h'
    · exact h'
    · rw [List.getElem?_eq_none h'] at h; cases h
  have e : l[k] = x := by rw [List.getElem?_eq_getElem hk] at h; injection h
  rw [List.take_succ_eq_append_getElem hk, List.all_append, ha, e]
  simp [hf]
set_option maxRecDepth 100000 in
theorem stop_all {l : List CE} {f : CE → Bool} {k : Nat} {x : CE} (h : l[k]? = some x) (hf : f x = false) : l.all f = false := by
  rw [Bool.eq_false_iff]
  intro ha
  rw [List.all_eq_true] at ha
  rw [ha x (List.mem_of_getElem? h)] at hf
  cases hf
set_option maxRecDepth 100000 in
theorem up1 {w wr w1 : World} {o : Obj} (h : Below w.heap.size w wr) (h2 : Below (wr.alloc o).heap.size (wr.alloc o) w1) : Below w.heap.size w w1 :=
  (h.alloc h.size o).trans (h2.mono (by simp; have := h.size; omega))
end Go.Proofs.Ytcajidlekfkjlaa
