/-
STAGE 8: trees that are alike. STAGE 8: rows of images put behind a row of images. STAGE 8: the document's With.
-/
import Derived.Test.YtcajidlekfkjlaaAG
import Derived.Deep.RegionLaw
namespace Go.Proofs.Ytcajidlekfkjlaa
open Go.RowKit

structure EqP (p q : PV) : Prop where
  k : p.k = q.k
  s : p.s = q.s
  x : p.x = q.x
  n : p.n = q.n
  e : p.es = q.es
theorem EqP.refl (p : PV) : EqP p p := ⟨rfl, rfl, rfl, rfl, rfl⟩
theorem EqP.same {p q : PV} (h : EqP p q) : sameP p q = true := by
  unfold sameP
  rw [h.k, h.s, h.x, h.e]
  simp
theorem EqP.ok {p q : PV} (h : EqP p q) : okP p = okP q := by unfold okP; rw [h.k, h.e, h.n]
theorem EqP.place {p q : PV} (h : EqP p q) (x : List Nat) : placeN p x = placeN q x := by unfold placeN; rw [h.k, h.e]
theorem EqP.child {p q : PV} (h : EqP p q) (x : List Nat) : childM p x = childM q x := by unfold childM; rw [h.x, h.e]
inductive EqL : List IV → List IV → Prop
  | nil : EqL [] []
  | cons {x y : IV} {l m : List IV} : x.t = y.t → EqP x.p y.p → EqL l m → EqL (x :: l) (y :: m)
theorem EqL.len {l m : List IV} (h : EqL l m) : l.length = m.length := by
  induction h with
  | nil => rfl
  | cons _ _ _ ih => simp [ih]
theorem EqL.at_ {l m : List IV} (h : EqL l m) : ∀ {i : Nat} {x y : IV}, l[i]? = some x → m[i]? = some y → x.t = y.t ∧ EqP x.p y.p := by
  induction h with
  | nil => intro i x y hx; simp at hx
  | cons ht hp _ ih =>
    intro i x y hx hy
    cases i with
    | zero => simp at hx hy; subst hx hy; exact ⟨ht, hp⟩
    | succ i => simp at hx hy; exact ih hx hy
theorem EqL.app {l m l' m' : List IV} (h : EqL l m) (h' : EqL l' m') : EqL (l ++ l') (m ++ m') := by
  induction h with
  | nil => exact h'
  | cons ht hp _ ih => exact EqL.cons ht hp ih
theorem EqL.find {l m : List IV} (h : EqL l m) (n : Nat) : (l.find? (fun x => x.t == n) = none ∧ m.find? (fun x => x.t == n) = none) ∨ ∃ x y, l.find? (fun x => x.t == n) = some x ∧ m.find? (fun x => x.t == n) = some y ∧ EqP x.p y.p := by
  induction h with
  | nil => exact Or.inl ⟨rfl, rfl⟩
  | @cons x y l m ht hp _ ih =>
    by_cases hx : (x.t == n) = true
    · have hy : (y.t == n) = true := by rw [← ht]; exact hx
      exact Or.inr ⟨x, y, by simp only [List.find?_cons, hx], by simp only [List.find?_cons, hy], hp⟩
    · have hy : ¬ (y.t == n) = true := by rw [← ht]; exact hx
      have hx' : (x.t == n) = false := by simpa using hx
      have hy' : (y.t == n) = false := by simpa using hy
      simp only [List.find?_cons, hx', hy']
      exact ih
structure EqT (t u : TV) : Prop where
  l : EqL t.l u.l
  b : t.bad = u.bad
  e : t.err = u.err
theorem EqT.get {t u : TV} (h : EqT t u) (n : Nat) : EqP (t.get n).1 (u.get n).1 ∧ (t.get n).2 = (u.get n).2 := by
  unfold TV.get
  rw [h.b, h.e]
  split
  · exact ⟨EqP.refl _, rfl⟩
  · rcases h.l.find n with ⟨h1, h2⟩ | ⟨x, y, h1, h2, h3⟩
    · rw [h1, h2]; exact ⟨EqP.refl _, rfl⟩
    · rw [h1, h2]; exact ⟨h3, rfl⟩
theorem EqT.ask {t u : TV} (h : EqT t u) (n : Nat) : (∃ c, askM (some t) n = .error c ∧ askM (some u) n = .error c) ∨ ∃ p q, askM (some t) n = .ok p ∧ askM (some u) n = .ok q ∧ EqP p q := by
  unfold askM
  by_cases h0 : n = 0
  · rw [if_pos h0, if_pos h0]; exact Or.inl ⟨_, rfl, rfl⟩
  · rw [if_neg h0, if_neg h0]
    obtain ⟨h1, h2⟩ := h.get n
    simp only []
    rw [h2, h1.ok]
    split
    · exact Or.inl ⟨_, rfl, rfl⟩
    · split
      · exact Or.inr ⟨_, _, rfl, rfl, h1⟩
      · exact Or.inl ⟨_, rfl, rfl⟩
theorem EqT.way {t u : TV} (h : EqT t u) (x : List Nat) : ∀ f n, wayN t x f n = wayN u x f n
  | 0, _ => rfl
  | f + 1, n => by
    rcases h.ask n with ⟨c, h1, h2⟩ | ⟨p, q, h1, h2, h3⟩
    · rw [wayN_err h1, wayN_err h2]
    · by_cases hk : p.k = 2
      · rw [wayN_leaf h1 hk, wayN_leaf h2 (by rw [← h3.k]; exact hk)]
      · rw [wayN_inner h1 hk, wayN_inner h2 (by rw [← h3.k]; exact hk), h3.child, EqT.way h x f]
theorem EqT.rsk {t u : TV} (h : EqT t u) (x : List Nat) : ∀ f n, rsk t x f n = rsk u x f n
  | f, n => by
    by_cases h0 : n = 0
    · subst h0; rw [rsk_zero, rsk_zero]
    · rcases h.ask n with ⟨c, h1, h2⟩ | ⟨p, q, h1, h2, h3⟩
      · rw [rsk_err h0 h1, rsk_err h0 h2]
      · by_cases hk : p.k = 2
        · have hk' : q.k = 2 := by rw [← h3.k]; exact hk
          cases f with
          | zero => rw [rsk_out h0 h1, rsk_out h0 h2]
          | succ f => rw [rsk_leaf h0 h1 hk, rsk_leaf h0 h2 hk', h3.place, h3.n, h3.x, EqT.rsk h x f]
        · rw [rsk_kind h0 h1 hk, rsk_kind h0 h2 (by rw [← h3.k]; exact hk)]
theorem EqT.path {t u : TV} (h : EqT t u) (x : List Nat) (n : Nat) : pathM (some t) x n = pathM (some u) x n := by
  have := h.way x 8 n
  unfold wayN at this
  unfold pathM
  rw [this]
theorem EqT.seek {t u : TV} (h : EqT t u) (hl : t.l.length ≤ 300) (x : List Nat) (n : Nat) : seekM (some t) x n = rseekM u x n := by
  rw [seekM_eq hl]
  unfold rseekM
  rw [h.way x 8 n]
  cases wayN u x 8 n with
  | error c => rfl
  | ok l => simp only []; rw [h.rsk]
end Go.Proofs.Ytcajidlekfkjlaa
namespace Go.Proofs.Ytcajidlekfkjlaa
open Go.RowKit

theorem ivs_of (vs : List IV) (j : Nat) (u : Value) (h : (ivs vs)[j]? = some u) : ∃ i v, vs[i]? = some v ∧ ((j = i * 5 ∧ u = .int .u32 (v.t : Int)) ∨ (j = i * 5 + 1 ∧ u = .int .i64 v.p.k) ∨ (j = i * 5 + 2 ∧ u = .int .u64 (v.p.s : Int)) ∨ (j = i * 5 + 3 ∧ u = .int .u32 (v.p.x : Int)) ∨ (j = i * 5 + 4 ∧ u = .slice v.p.A v.p.n v.p.c)) := by
  have hl : j < (ivs vs).length := by
    rcases Nat.lt_or_ge j (ivs vs).length with h1 | h1
    · exact h1
    · rw [List.getElem?_eq_none h1] at h; cases h
  rw [ivs_len] at hl
  have hi : j / 5 < vs.length := by omega
  have hv : vs[j / 5]? = some vs[j / 5] := List.getElem?_eq_getElem hi
  obtain ⟨a, b, c, d, e⟩ := ivs_at vs _ _ hv
  refine ⟨j / 5, _, hv, ?_⟩
  have hr : j = j / 5 * 5 ∨ j = j / 5 * 5 + 1 ∨ j = j / 5 * 5 + 2 ∨ j = j / 5 * 5 + 3 ∨ j = j / 5 * 5 + 4 := by omega
  rcases hr with hr | hr | hr | hr | hr
  · left; refine ⟨hr, ?_⟩; rw [← hr] at a; rw [a] at h; injection h with h; exact h.symm
  · right; left; refine ⟨hr, ?_⟩; rw [← hr] at b; rw [b] at h; injection h with h; exact h.symm
  · right; right; left; refine ⟨hr, ?_⟩; rw [← hr] at c; rw [c] at h; injection h with h; exact h.symm
  · right; right; right; left; refine ⟨hr, ?_⟩; rw [← hr] at d; rw [d] at h; injection h with h; exact h.symm
  · right; right; right; right; refine ⟨hr, ?_⟩; rw [← hr] at e; rw [e] at h; injection h with h; exact h.symm
theorem IVR.cells {w : World} {S : Nat → Prop} {A : Option Addr} {n : Nat} {l : List IV} (h : IVR w S A n l) (hn : 0 < n) : ∃ g o, A = some ⟨g, o, none⟩ ∧ ∀ j u, (ivs l)[j]? = some u → w.cell? ((⟨g, o, none⟩ : Addr).add j) = some u := by
  obtain ⟨h1, h2, h3, h4⟩ := h
  obtain ⟨g, o, e, hg, hs, hc⟩ := h4 hn
  refine ⟨g, o, e, fun j u hj => ?_⟩
  obtain ⟨i, v, hv, hh⟩ := ivs_of l j u hj
  obtain ⟨a, b, c, d, e'⟩ := hc i v hv
  have ha : (⟨g, o, none⟩ : Addr).add j = ⟨g, o + j, none⟩ := by simp [Addr.add]
  rw [ha]
  rcases hh with ⟨rfl, rfl⟩ | ⟨rfl, rfl⟩ | ⟨rfl, rfl⟩ | ⟨rfl, rfl⟩ | ⟨rfl, rfl⟩
  · exact a
  · exact b
  · exact c
  · exact d
  · exact e'
section
variable {w : World} {S T : Nat → Prop}
theorem run_appIVs (ty : TypeId) (v : Value) (n : Nat) (l : List IV) (h : OwIV w S T v n l) (A : Option Addr) (m c : Nat) (k : List IV) {T' : Nat → Prop} (hr : IVR w T' A m k) (hki : ∀ x ∈ k, x.In w T) (hb : (n + m) * 56 ≤ 140737488355328) :
    ∃ v' w', (Builtin.append_ #[22, 22] ty #[v, .slice A m c]).run Try.prog w = .ok v' w' ∧ OwIV w' (fun b => S b ∨ w.heap.size ≤ b) (fun b => T b ∧ b < w.heap.size) v' (n + m) (l ++ k) ∧ w.grownBy w' v.ownBlock := by
  obtain ⟨i0, hi, hz0, hz1, hz2⟩ := info_parts infoIV
  have hin : ∀ w', w.grownBy w' v.ownBlock → ∀ y ∈ l ++ k, y.In w' (fun b => T b ∧ b < w.heap.size) := by
    intro w' hg y hy
    have hyi : y.In w T := by
      rcases List.mem_append.1 hy with hy | hy
      · exact h.2.1 y hy
      · exact hki y hy
    have hf : Fr w w' (fun b => v.ownBlock = some b) := (Fr.refl w _).grown hg fun k hk => Or.inl hk
    exact (hyi.mono (S' := fun b => T b ∧ b < w.heap.size) fun b hlt hb => ⟨hb, hlt⟩).keep hf fun b hb hk => h.2.2.2 b hk hb.1
  rcases A with _ | ad
  · have h0 : m = 0 := by
      rcases Nat.eq_zero_or_pos m with h0 | h0
      · exact h0
      · obtain ⟨g, o, e, _⟩ := hr.cells h0
        cases e
    subst h0
    have hk : k = [] := List.eq_nil_of_length_eq_zero hr.1
    subst hk
    have hnil : OwIV w (fun b => S b ∨ w.heap.size ≤ b) (fun b => T b ∧ b < w.heap.size) v (n + 0) (l ++ []) := by
      rw [List.append_nil]
      refine ⟨h.1, fun y hy => ?_, fun q hq => Or.inl (h.2.2.1 q hq), fun q hq hT => h.2.2.2 q hq hT.1⟩
      exact (h.2.1 y hy).mono fun b hlt hb => ⟨hb, hlt⟩
    refine ⟨v, w, ?_, hnil, World.grownBy.refl w _⟩
    rcases h.1.2 with ⟨rfl, rfl⟩ | ⟨g, cap, cur, rfl, _, _, hnc, _⟩
    · simp [Builtin.append_, run_underlying Try.underlying22, sizeOf, typeInfo, hi, Builtin.lenOf, Builtin.firstCells]
    · simp [Builtin.append_, run_underlying Try.underlying22, sizeOf, typeInfo, hi, Builtin.lenOf, Builtin.firstCells, hnc, storeCells]
  · have hcells : ∀ j u, (ivs k)[j]? = some u → w.cell? (ad.add j) = some u := by
      rcases Nat.eq_zero_or_pos m with h0 | h0
      · have hk : k = [] := List.eq_nil_of_length_eq_zero (by rw [hr.1]; exact h0)
        subst hk
        intro j u hj
        simp [ivs] at hj
      · obtain ⟨g, o, e, hc⟩ := hr.cells h0
        injection e with e
        subst e
        exact hc
    obtain ⟨v', w', h1, h2, h3, _, h5⟩ := run_append_own_at (P := Try.prog) w 0 22 ty 54 i0 (.agg #[.int .u32 0, .int .i64 0, .int .u64 0, .int .u32 0, .slice none 0 0]) 5 56 Try.underlying22 hi hz0 hz1 hz2 (by decide) (by decide) v n (ivs l) h.1 ad m c (ivs k)
      (by rw [ivs_len, hr.1]) hcells (ivs_one k) (by simp only [maxLen]; omega) hb (Nat.zero_le _)
    rw [← ivs_append] at h2
    refine ⟨v', w', h1, ⟨h2, hin w' h3, fun q hq => ?_, fun q hq hT => ?_⟩, h3⟩
    · rcases h5 with h5 | h5
      · exact Or.inl (h.2.2.1 q (by rw [← h5]; exact hq))
      · rw [h5] at hq
        injection hq with hq
        exact Or.inr (by omega)
    · rcases h5 with h5 | h5
      · exact h.2.2.2 q (by rw [← h5]; exact hq) hT.1
      · rw [h5] at hq
        injection hq with hq
        have := hT.2
        omega
variable {ops : Array Oper} {rest : List Oper} {o : Oper} {a : Act} {Q : Exit → Act → World → Prop}
theorem wp_appIVs {K : Act → World → Prop} (s x : Operand) (ho : o.op = .call { callee := .builtin .append, args := #[s, x], argTypes := #[22, 22] })
    (v : Value) (n : Nat) (l : List IV) (hs : a.eval s = v) (h : OwIV w S T v n l) (A : Option Addr) (m c : Nat) (k : List IV) (hx : a.eval x = .slice A m c) (T' : Nat → Prop) (hr : IVR w T' A m k) (hki : ∀ x ∈ k, x.In w T) (hb : (n + m) * 56 ≤ 140737488355328)
    (hK : ∀ v' w', OwIV w' (fun b => S b ∨ w.heap.size ≤ b) (fun b => T b ∧ b < w.heap.size) v' (n + m) (l ++ k) → w.grownBy w' v.ownBlock → K (a.put o.dst v') w') : o.wp Try.prog a w K Q := by
  obtain ⟨v', w', hrun, h2, h3⟩ := run_appIVs o.type v n l h A m c k hr hki hb
  unfold Oper.wp execOp
  simp only [ho, resolve, invoke, builtin, Sem.run_bind, Sem.run_pure, Result.andThen_ok, List.map_toArray, List.map_cons, List.map_nil, hs, hx, hrun]
  exact hK v' w' h2 h3
theorem wpList_appIVs (hgd : o.guard = none) (s x : Operand) (ho : o.op = .call { callee := .builtin .append, args := #[s, x], argTypes := #[22, 22] })
    (v : Value) (n : Nat) (l : List IV) (hs : a.eval s = v) (h : OwIV w S T v n l) (A : Option Addr) (m c : Nat) (k : List IV) (hx : a.eval x = .slice A m c) (T' : Nat → Prop) (hr : IVR w T' A m k) (hki : ∀ x ∈ k, x.In w T) (hb : (n + m) * 56 ≤ 140737488355328)
    (hK : ∀ v' w', OwIV w' (fun b => S b ∨ w.heap.size ≤ b) (fun b => T b ∧ b < w.heap.size) v' (n + m) (l ++ k) → w.grownBy w' v.ownBlock → wpList Try.prog ops Q rest (a.put o.dst v') w') : wpList Try.prog ops Q (o :: rest) a w :=
  wpList_plain hgd fun _ hk => wp_appIVs s x ho v n l hs h A m c k hx T' hr hki hb fun v' w' h2 h3 => hk _ _ (hK v' w' h2 h3)
theorem step_appIVs {K : Act → World → Prop} {E : Prop} (hgd : o.guard = none) (s x : Operand) (ho : o.op = .call { callee := .builtin .append, args := #[s, x], argTypes := #[22, 22] })
    (v : Value) (n : Nat) (l : List IV) (hs : a.eval s = v) (h : OwIV w S T v n l) (A : Option Addr) (m c : Nat) (k : List IV) (hx : a.eval x = .slice A m c) (T' : Nat → Prop) (hr : IVR w T' A m k) (hki : ∀ x ∈ k, x.In w T) (hb : (n + m) * 56 ≤ 140737488355328)
    (hK : ∀ v' w', OwIV w' (fun b => S b ∨ w.heap.size ≤ b) (fun b => T b ∧ b < w.heap.size) v' (n + m) (l ++ k) → w.grownBy w' v.ownBlock → K (a.put o.dst v') w') : if Region.wanted o (yielded ops a.tmps) = true then Oper.wp Try.prog o a w K Q else E := by
  have hw : Region.wanted o (yielded ops a.tmps) = true := by simp [Region.wanted, hgd]
  rw [if_pos hw]
  exact wp_appIVs s x ho v n l hs h A m c k hx T' hr hki hb hK
end
/-- one image in a block of its own -/
theorem one_iv {w : World} {g : Nat} {x : IV} (hb : Blk w g 54 #[.int .u32 (x.t : Int), .int .i64 x.p.k, .int .u64 (x.p.s : Int), .int .u32 (x.p.x : Int), .slice x.p.A x.p.n x.p.c]) {T : Nat → Prop} (hx : x.In w T) : IVR w (fun b => T b ∨ b = g) (some ⟨g, 0, none⟩) 1 [x] := by
  refine ⟨rfl, fun y hy => ?_, by omega, fun _ => ⟨g, 0, rfl, hb.lt, Or.inr rfl, fun i y hi => ?_⟩⟩
  · simp at hy; subst hy; exact hx.mono fun b _ hb => Or.inl hb
  · cases i with
    | zero =>
      simp at hi; subst hi
      exact ⟨hb.cell 0, hb.cell 1, hb.cell 2, hb.cell 3, hb.cell 4⟩
    | succ i => simp at hi
end Go.Proofs.Ytcajidlekfkjlaa
namespace Go.Proofs.Ytcajidlekfkjlaa
open Go.RowKit

theorem EqP.symm {p q : PV} (h : EqP p q) : EqP q p := ⟨h.k.symm, h.s.symm, h.x.symm, h.n.symm, h.e.symm⟩
theorem EqL.take_succ {l lk : List IV} {k : Nat} {x y : IV} (h : EqL lk (l.take k)) (hx : l[k]? = some x) (ht : y.t = x.t) (hp : EqP y.p x.p) : EqL (lk ++ [y]) (l.take (k + 1)) := by
  obtain ⟨hl, e⟩ := List.getElem?_eq_some_iff.1 hx
  rw [List.take_succ_eq_append_getElem hl, e]
  exact h.app (EqL.cons ht hp EqL.nil)
def Tv (w : World) (v : Value) (b : Nat) : Prop := w.heap.size + 3 ≤ b ∧ v.ownBlock ≠ some b
theorem with_lay {w wr w3 : World} {So To : Nat → Prop} {v : Value} {k xt : Nat} {lk : List IV} {q : PV} {Sq Tq : Nat → Prop} {cs : Array Value} (how : OwIV wr So To v k lk) (hTo : ∀ b, To b → w.heap.size + 3 ≤ b) (b2 : Blk wr (w.heap.size + 1 + 1) 26 cs)
    (hb3 : Below wr.heap.size wr w3) (hpo : PO w3 Sq Tq q) (hSq : ∀ b, Sq b → wr.heap.size ≤ b) (hTq : ∀ b, Tq b → wr.heap.size ≤ b) (hxt : xt < 4294967296) :
    OwIV (w3.alloc (.cells #[.int .u32 (xt : Int), .int .i64 q.k, .int .u64 (q.s : Int), .int .u32 (q.x : Int), .slice q.A q.n q.c] 54)) So (Tv w v) v k lk ∧ IVR (w3.alloc (.cells #[.int .u32 (xt : Int), .int .i64 q.k, .int .u64 (q.s : Int), .int .u32 (q.x : Int), .slice q.A q.n q.c] 54)) (fun b => Tv w v b ∨ b = w3.heap.size) (some ⟨w3.heap.size, 0, none⟩) 1 [⟨xt, q⟩] ∧ (∀ y ∈ [(⟨xt, q⟩ : IV)], y.In (w3.alloc (.cells #[.int .u32 (xt : Int), .int .i64 q.k, .int .u64 (q.s : Int), .int .u32 (q.x : Int), .slice q.A q.n q.c] 54)) (Tv w v)) ∧
      Blk (w3.alloc (.cells #[.int .u32 (xt : Int), .int .i64 q.k, .int .u64 (q.s : Int), .int .u32 (q.x : Int), .slice q.A q.n q.c] 54)) (w.heap.size + 1 + 1) 26 cs ∧ Below wr.heap.size wr (w3.alloc (.cells #[.int .u32 (xt : Int), .int .i64 q.k, .int .u64 (q.s : Int), .int .u32 (q.x : Int), .slice q.A q.n q.c] 54)) ∧ Blk w3 (w.heap.size + 1 + 1) 26 cs := by
  have hw3 := hb3.size
  have hw2 := b2.lt
  have hown : ∀ b, v.ownBlock = some b → b < wr.heap.size := fun b hb => (how.1.lt b hb).2
  have hb4 : Below wr.heap.size wr (w3.alloc (.cells #[.int .u32 (xt : Int), .int .i64 q.k, .int .u64 (q.s : Int), .int .u32 (q.x : Int), .slice q.A q.n q.c] 54)) := hb3.alloc hb3.size _
  have hyi : (⟨xt, q⟩ : IV).In w3 (Tv w v) := ⟨hxt, hpo.In.mono (fun b _ hb => ⟨by have := hSq b hb; omega, fun e => by have := hSq b hb; have := hown b e; omega⟩) (fun b _ hb => ⟨by have := hTq b hb; omega, fun e => by have := hTq b hb; have := hown b e; omega⟩)⟩
  have hyi4 := hyi.keep (Fr.of_below ((Below.refl _ w3).alloc (Nat.le_refl _) (.cells #[.int .u32 (xt : Int), .int .i64 q.k, .int .u64 (q.s : Int), .int .u32 (q.x : Int), .slice q.A q.n q.c] 54)) No) (fun _ _ hn => hn)
  refine ⟨?_, one_iv (x := ⟨xt, q⟩) (Blk.new w3 54 #[.int .u32 (xt : Int), .int .i64 q.k, .int .u64 (q.s : Int), .int .u32 (q.x : Int), .slice q.A q.n q.c]) hyi4, fun y hy => ?_, b2.keep (Fr.of_below hb4 No) (fun hn => hn), hb4, b2.keep (Fr.of_below hb3 No) (fun hn => hn)⟩
  · exact (how.mono (fun b _ hb => hb) (fun b _ hb => ⟨hTo b hb, fun e => how.2.2.2 b e hb⟩) (fun b hb h => h.2 hb)).keep (Fr.of_below hb4 No) (fun _ _ hn => hn) (fun _ _ hn => hn)
  · simp at hy; subst hy; exact hyi4
theorem with_end {t : TV} {w wr wa w4 : World} {So To : Nat → Prop} {v v4 : Value} {k : Nat} {l lk : List IV} {x y : IV} (how : OwIV wr So To v k lk) (hSo : ∀ b, So b → w.heap.size + 3 ≤ b)
    (b0 : Blk wr w.heap.size 26 #[.slice t.A t.n t.c, .int .u32 (t.bad : Int), .int .i64 t.err]) (b1 : Blk wr (w.heap.size + 1) 26 #[.slice none 0 0, .int .u32 0, .int .i64 0]) (b2 : Blk wr (w.heap.size + 1 + 1) 26 #[v, .int .u32 (t.bad : Int), .int .i64 t.err]) (hb : Below w.heap.size w wr) (ha : Below wr.heap.size wr wa)
    (hown : OwIV w4 (fun b => So b ∨ wa.heap.size ≤ b) (fun b => Tv w v b ∧ b < wa.heap.size) v4 (k + 1) (lk ++ [y])) (hg : wa.grownBy w4 v.ownBlock) (hk2 : Blk w4 (w.heap.size + 1 + 1) 26 #[v, .int .u32 (t.bad : Int), .int .i64 t.err])
    (hel : EqL lk (l.take k)) (hx : l[k]? = some x) (hy : y.t = x.t) (hp : EqP y.p x.p) :
    ∃ (S1 T1 : Nat → Prop), Blk (w4.setCell ⟨w.heap.size + 1 + 1, 0, none⟩ v4) w.heap.size 26 #[.slice t.A t.n t.c, .int .u32 (t.bad : Int), .int .i64 t.err] ∧ Blk (w4.setCell ⟨w.heap.size + 1 + 1, 0, none⟩ v4) (w.heap.size + 1) 26 #[.slice none 0 0, .int .u32 0, .int .i64 0] ∧ Blk (w4.setCell ⟨w.heap.size + 1 + 1, 0, none⟩ v4) (w.heap.size + 1 + 1) 26 #[v4, .int .u32 (t.bad : Int), .int .i64 t.err] ∧
      OwIV (w4.setCell ⟨w.heap.size + 1 + 1, 0, none⟩ v4) S1 T1 v4 (k + 1) (lk ++ [y]) ∧ (∀ b, S1 b → w.heap.size + 3 ≤ b) ∧ (∀ b, T1 b → w.heap.size + 3 ≤ b) ∧ EqL (lk ++ [y]) (l.take (k + 1)) ∧ Below w.heap.size w (w4.setCell ⟨w.heap.size + 1 + 1, 0, none⟩ v4) := by
  have hsz := hb.size
  have hsa := ha.size
  have h2 := b2.lt
  have hob : ∀ b, v.ownBlock = some b → w.heap.size + 3 ≤ b := fun b e => hSo b (how.2.2.1 b e)
  have f4 : Fr wr w4 (fun b => v.ownBlock = some b) := (Fr.of_below ha _).grown hg fun b e => Or.inl e
  have fF : Fr w4 (w4.setCell ⟨w.heap.size + 1 + 1, 0, none⟩ v4) (fun b => b = w.heap.size + 1 + 1) := (Fr.refl w4 fun b => b = w.heap.size + 1 + 1).setCell (p := ⟨w.heap.size + 1 + 1, 0, none⟩) (Or.inl rfl) _
  refine ⟨_, _, (b0.keep f4 (fun e => by have := hob _ e; omega)).keep fF (by omega), (b1.keep f4 (fun e => by have := hob _ e; omega)).keep fF (by omega), hk2.set_ 0 _, hown.keep fF (fun b hb => ?_) (fun b hb => ?_), fun b hb => ?_, fun b hb => hb.1.1, hel.take_succ hx hy hp, ?_⟩
  · rcases hb with hb | hb
    · have := hSo b hb; omega
    · omega
  · have := hb.1.1; omega
  · rcases hb with hb | hb
    · exact hSo b hb
    · omega
  · exact hb.trans ((f4.below (fun b e => by have := hob b e; omega) hsz).trans (fF.below (fun b e => by omega) (by have := f4.size; omega)))
set_option maxHeartbeats 4000000 in
set_option maxRecDepth 100000 in
theorem with_any (t : TV) (A : Option Addr) (n c : Nat) (l : List IV) (w : World) {S S' : Nat → Prop} (ht : t.In w S) (h : IVR w S' A n l) (hf : ∀ x ∈ l, Few x.p) (hn : n ≤ 1000) (htn : t.n ≤ 1000) :
    Calls Try.prog 20 #[t.agg, .slice A n c] w fun e w' => ∃ (u : TV) (T : Nat → Prop), e = .returned u.agg ∧ u.In w' T ∧ (∃ l', u.l = l' ++ t.l ∧ EqL l' l) ∧ (∀ b, T b → w.heap.size ≤ b ∨ (S b ∧ b < w.heap.size)) ∧ u.n = n + t.n ∧ u.bad = t.bad ∧ u.err = t.err ∧ Below w.heap.size w w' := by
  have HT := Lib.hid ht
  have HR := Lib.hid h
  have HF := Lib.hid hf
  have HLEN := Lib.hid h.1
  have HN := Lib.hid hn
  unfold TV.agg
  clear ht h hf
  go_enter Try.func20, Try.ntmps20
  go_wp2_with fail
  go_loopw [6] (fun i wr => ∃ (k : Nat) (v : Value) (So To : Nat → Prop) (lk : List IV), k ≤ n ∧ i = .int .i64 (k : Int) ∧ Blk wr w.heap.size 26 #[.slice t.A t.n t.c, .int .u32 (t.bad : Int), .int .i64 t.err] ∧ Blk wr (w.heap.size + 1) 26 #[.slice none 0 0, .int .u32 0, .int .i64 0] ∧ Blk wr (w.heap.size + 1 + 1) 26 #[v, .int .u32 (t.bad : Int), .int .i64 t.err] ∧
      OwIV wr So To v k lk ∧ (∀ b, So b → w.heap.size + 3 ≤ b) ∧ (∀ b, To b → w.heap.size + 3 ≤ b) ∧ EqL lk (l.take k) ∧ Below w.heap.size w wr) (fun i _ => n - (intOf i).toNat)
  case atStart =>
    refine ⟨0, .slice none 0 0, No, No, [], by omega, rfl, ?_, ?_, ?_, OwIV.nil_ _ _ _, (fun b hb => hb.elim), (fun b hb => hb.elim), by simpa using EqL.nil, ?_⟩
    · exact ((Blk.new w 26 #[.slice t.A t.n t.c, .int .u32 (t.bad : Int), .int .i64 t.err]).alloc _).alloc _
    · have := (Blk.new (w.alloc (.cells #[.slice t.A t.n t.c, .int .u32 (t.bad : Int), .int .i64 t.err] 26)) 26 #[.slice none 0 0, .int .u32 0, .int .i64 0]).alloc (.cells #[.slice none 0 0, .int .u32 (t.bad : Int), .int .i64 t.err] 26)
      rwa [World.size_alloc] at this
    · have := Blk.new ((w.alloc (.cells #[.slice t.A t.n t.c, .int .u32 (t.bad : Int), .int .i64 t.err] 26)).alloc (.cells #[.slice none 0 0, .int .u32 0, .int .i64 0] 26)) 26 #[.slice none 0 0, .int .u32 (t.bad : Int), .int .i64 t.err]
      rwa [World.size_alloc, World.size_alloc] at this
    · exact (((Below.refl _ _).alloc (Nat.le_refl _) _).alloc (by simp) _).alloc (by simp; omega) _
  case round =>
    obtain ⟨k, v, So, To, lk, hk, rfl, b0, b1, b2, how, hSo, hTo, hel, hb⟩ := hrel
    obtain ⟨vA, vc, rfl, _, _, _, _⟩ := how.reads (by omega)
    have HB0 := Lib.hid b0
    have HB1 := Lib.hid b1
    have HB2 := Lib.hid b2
    have HOW := Lib.hid how
    have HSO := Lib.hid hSo
    have HTO := Lib.hid hTo
    have HEL := Lib.hid hel
    have HB := Lib.hid hb
    clear hSo hTo hel how
    by_cases hlt : k < n
    · have hws : IntKind.i64.wrap ((k : Int) + 1) = ((k + 1 : Nat) : Int) := by rw [IntWalk.i64_in _ (by omega)]; omega
      have hws' : IntKind.i64.wrap ((k : Int) + 1) = (k : Int) + 1 := IntWalk.i64_in _ (by omega)
      obtain ⟨g, o, x, hA, hgl, _, hx, hxi, c0, c1, c2, c3, c4⟩ := (HR.out.keep (Fr.of_below hb No) fun _ _ hn => hn).at_ hlt
      subst hA
      have hfx := HF.out x (List.mem_of_getElem? hx)
      have hxt := hxi.t
      have HCP := Lib.hid (fun (W : World) (hW : Below wr.heap.size wr W) => copyPage_any x.p W (hxi.p.keep (Fr.of_below hW No) (fun _ _ hn => hn) (fun _ _ hn => hn)).all hfx)
      obtain ⟨xt, xk, xs, xx, xA, xn, xc, xl⟩ := x
      dsimp only at HCP c0 c1 c2 c3 c4 hxt
      have z0 := b2.cell 0
      have zf := b2.frozen 0
      simp only [List.getElem?_toArray, List.getElem?_cons_zero] at z0
      have HX := Lib.hid hx
      have HLT := Lib.hid hlt
      have HXT := Lib.hid hxt
      have hz2 := b2.lt
      unfold PV.agg at HCP
      dsimp only at HCP
      clear hx hxi hfx b0 b1 b2 hlt hxt hb
      go_upto_region 5 with fail
      go_region_law (first
        | (refine step_appIVs rfl (.tmp 19) (.tmp 32) rfl _ k lk rfl HO4.out (some ⟨w3.heap.size, 0, none⟩) 1 1 [⟨xt, ⟨qk, qs, qx, qA, qn, qc, ql⟩⟩] rfl _ HON4.out HKI4.out HNB.out ?_
           intro v4 w4 hown hgrow
           obtain ⟨A4, c4, rfl, _⟩ := hown.reads (by have := HLT.out; omega)
           have k2 := HB24.out.grown hgrow (fun e => absurd (HSO.out _ (HOW.out.2.2.1 _ e.symm)) (by omega))
           have z4 := k2.cell 0
           have zf4 := k2.frozen 0
           simp only [List.getElem?_toArray, List.getElem?_cons_zero] at z4
           have HK2 := Lib.hid k2
           have HO5 := Lib.hid hown
           have HG5 := Lib.hid hgrow
           clear hown hgrow k2)
        | (go_simp; go_wp2_with (go_at_call 44; refine (HCP.out wr.drew (Fr.refl wr No).drew.no_below).mono ?_; rintro e w3 ⟨q, Sq, Tq, rfl, hpo, hSq, hTq, he1, he2, he3, he4, he5, hb3⟩; obtain ⟨qk, qs, qx, qA, qn, qc, ql⟩ := q; obtain ⟨ho4, hon4, hki4, hb24, hb34, hy⟩ := with_lay HOW.out HTO.out HB2.out (show Below wr.heap.size wr w3 from ⟨hb3.os, hb3.tape, hb3.output, hb3.size, hb3.block⟩) hpo hSq hTq HXT.out; have HO4 := Lib.hid ho4; have HON4 := Lib.hid hon4; have HKI4 := Lib.hid hki4; have HB24 := Lib.hid hb24; have HB34 := Lib.hid hb34; have HEP : Hid (EqP ⟨qk, qs, qx, qA, qn, qc, ql⟩ ⟨xk, xs, xx, xA, xn, xc, xl⟩) := Lib.hid ⟨he2, he3, he4, he5, he1⟩; have HNB : Hid ((k + 1) * 56 ≤ 140737488355328) := Lib.hid (by have := HLT.out; omega); have y0 := hy.cell 0; have hl2 := hy.lt; have hl3 := Nat.lt_of_lt_of_le hgl (show wr.heap.size ≤ w3.heap.size from hb3.size); simp only [List.getElem?_toArray, List.getElem?_cons_zero] at y0; have e0 := (show w3.cell? ⟨g, o + k * 5, none⟩ = wr.cell? ⟨g, o + k * 5, none⟩ from hb3.cell (p := ⟨g, o + k * 5, none⟩) hgl).trans c0; have e1 := (show w3.cell? ⟨g, o + k * 5 + 1, none⟩ = wr.cell? ⟨g, o + k * 5 + 1, none⟩ from hb3.cell (p := ⟨g, o + k * 5 + 1, none⟩) hgl).trans c1; have e2 := (show w3.cell? ⟨g, o + k * 5 + 2, none⟩ = wr.cell? ⟨g, o + k * 5 + 2, none⟩ from hb3.cell (p := ⟨g, o + k * 5 + 2, none⟩) hgl).trans c2; have e3 := (show w3.cell? ⟨g, o + k * 5 + 3, none⟩ = wr.cell? ⟨g, o + k * 5 + 3, none⟩ from hb3.cell (p := ⟨g, o + k * 5 + 3, none⟩) hgl).trans c3; have e4 := (show w3.cell? ⟨g, o + k * 5 + 4, none⟩ = wr.cell? ⟨g, o + k * 5 + 4, none⟩ from hb3.cell (p := ⟨g, o + k * 5 + 4, none⟩) hgl).trans c4; clear ho4 hon4 hki4 hb24 hb34 hy hb3 hpo hSq hTq he1 he2 he3 he4 he5)))
      all_goals
        go_wp2_with fail
        obtain ⟨S1, T1, r0, r1, r2, r3, r4, r5, r6, r7⟩ := with_end HOW.out HSO.out HB0.out HB1.out HB2.out HB.out HB34.out HO5.out HG5.out HK2.out HEL.out HX.out rfl HEP.out
        exact ⟨⟨k + 1, _, S1, T1, _, by have := HLT.out; omega, by go_num, r0, r1, r2, r3, r4, r5, r6, r7⟩, by simp [intOf]; have := HLT.out; omega⟩
    · obtain rfl : k = n := by omega
      have hri := HT.out.keep (Fr.of_below HB.out No) (fun _ _ hn => hn)
      have x0 := b0.cell 0
      have z0 := b2.cell 0
      have z1 := b2.cell 1
      have z2 := b2.cell 2
      have zf := b2.frozen 0
      simp only [List.getElem?_toArray, List.getElem?_cons_zero, List.getElem?_cons_succ] at x0 z0 z1 z2
      have HRI := Lib.hid hri
      have HOW2 : Hid (OwIV wr So (fun b => Tv w (.slice vA k vc) b ∨ (S b ∧ b < w.heap.size)) (.slice vA k vc) k lk) := Lib.hid (HOW.out.mono (fun b _ hb => hb) (fun b _ hb => Or.inl ⟨HTO.out b hb, fun e => HOW.out.2.2.2 b e hb⟩) (fun b hb h => h.elim (fun h => h.2 hb) fun h => by have := HSO.out b (HOW.out.2.2.1 b hb); omega))
      have HKI : Hid (∀ y ∈ t.l, y.In wr (fun b => Tv w (.slice vA k vc) b ∨ (S b ∧ b < w.heap.size))) := Lib.hid fun y hy => ((HT.out.r.2.1 y hy).mono (S' := fun b => Tv w (.slice vA k vc) b ∨ (S b ∧ b < w.heap.size)) (fun b hlt hb => Or.inr ⟨hb, hlt⟩)).keep (Fr.of_below HB.out No) (fun _ _ hn => hn)
      have HNB : Hid ((k + t.n) * 56 ≤ 140737488355328) := Lib.hid (by omega)
      clear b0 b1 b2 hri hb hlt
      go_upto_region 7 with (at_builtin; go_must (refine wpList_appIVs rfl (.tmp 36) (.tmp 38) rfl _ k lk rfl HOW2.out t.A t.n t.c t.l rfl S HRI.out.r HKI.out HNB.out ?_); intro v4 w4 hown hgrow; obtain ⟨A4, c4, rfl, hc4, _, hz4, hr4⟩ := hown.reads (by omega); have k2 := HB2.out.grown hgrow (fun e => absurd (HSO.out _ (HOW.out.2.2.1 _ e.symm)) (by omega)); have k1 := HB1.out.grown hgrow (fun e => absurd (HSO.out _ (HOW.out.2.2.1 _ e.symm)) (by omega)); have z40 := k2.cell 0; have z41 := k2.cell 1; have z42 := k2.cell 2; have zf4 := k2.frozen 0; simp only [List.getElem?_toArray, List.getElem?_cons_zero, List.getElem?_cons_succ] at z40 z41 z42; have HK2 := Lib.hid k2; have HK1 := Lib.hid k1; have HO5 := Lib.hid hown; have HG5 := Lib.hid hgrow; have HC4 := Lib.hid hc4; have HZ4 := Lib.hid hz4; clear hown hgrow k2 k1 hc4 hz4 hr4)
      obtain ⟨w5, hw5⟩ : ∃ W, W = w4.setCell ⟨w.heap.size + 1 + 1, 0, none⟩ (.slice A4 (k + t.n) c4) := ⟨_, rfl⟩
      have f5 : Fr w4 w5 (fun b => b = w.heap.size + 1 + 1) := by rw [hw5]; exact (Fr.refl w4 fun b => b = w.heap.size + 1 + 1).setCell (p := ⟨w.heap.size + 1 + 1, 0, none⟩) (Or.inl rfl) _
      have n5 : Blk w5 (w.heap.size + 1 + 1) 26 #[.slice A4 (k + t.n) c4, .int .u32 (t.bad : Int), .int .i64 t.err] := by rw [hw5]; exact HK2.out.set_ 0 _
      have r5 := HK1.out.keep f5 (by omega)
      rw [← hw5]
      have HF5 := Lib.hid f5
      have HN5 := Lib.hid n5
      have HR5 := Lib.hid r5
      clear hw5 f5 n5 r5 z40 z41 z42 zf4 x0 z0 z1 z2 zf
      go_wp2_with (first
        | (refine wpList_ldB rfl 26 (.tmp 5) rfl (w.heap.size + 1 + 1) rfl 26 #[.slice A4 (k + t.n) c4, .int .u32 (t.bad : Int), .int .i64 t.err] _ HN5.out Try.underlying26 rfl size26 ?_)
        | (refine wpList_stB rfl 26 (.tmp 4) (.tmp 41) rfl (w.heap.size + 1) #[.slice A4 (k + t.n) c4, .int .u32 (t.bad : Int), .int .i64 t.err] rfl rfl 26 #[.slice none 0 0, .int .u32 0, .int .i64 0] HR5.out size26 rfl rfl ?_; intro w6 hz6 hf6; have HZ6 := Lib.hid hz6; have HF6 := Lib.hid hf6; clear hz6 hf6))
      refine bodyPost_ret (results_cell_row Try.results20 _ _ (w.heap.size + 1) 26 _ (0, 0) _ rfl HZ6.out Try.underlying26 rfl size26) rfl ?_
      have hsz := HB.out.size
      have f6 : Fr w4 w6 (fun b => b = w.heap.size + 1 + 1 ∨ b = w.heap.size + 1) := (HF5.out.mono fun b _ hb => Or.inl hb).same (HF6.out.mono fun b _ hb => Or.inr hb)
      have how6 := HO5.out.keep f6 (fun b hb h => by
        rcases hb with hb | hb
        · have := HSO.out b hb; omega
        · have := HB2.out.lt; omega) (fun b hb h => by
        rcases hb.1 with hb | hb
        · have := hb.1; omega
        · have := hb.2; omega)
      obtain ⟨A6, c6, e6, hc6, _, hz6, hr6⟩ := how6.reads (by omega)
      injection e6 with eA _ ec
      subst eA ec
      refine ⟨⟨A4, k + t.n, c4, lk ++ t.l, t.bad, t.err⟩, _, rfl, ⟨hr6, HT.out.bad, hc6, hz6, HT.out.e1, HT.out.e2⟩, ⟨lk, rfl, ?_⟩, fun b hb => ?_, rfl, rfl, rfl, ?_⟩
      · have := HEL.out
        rwa [List.take_of_length_le (by rw [HLEN.out]; exact Nat.le_refl _)] at this
      · rcases hb with hb | hb
        · rcases hb with hb | hb
          · left; have := HSO.out b hb; omega
          · left; omega
        · rcases hb.1 with hb | hb
          · left; have := hb.1; omega
          · right; exact hb
      · have f4 : Fr wr w4 (fun b => (Value.slice vA k vc).ownBlock = some b) := (Fr.refl wr _).grown HG5.out fun b e => Or.inl e
        exact HB.out.trans ((f4.below (fun b e => by have := HSO.out b (HOW.out.2.2.1 b e); omega) hsz).trans (f6.below (fun b e => by omega) (by have := f4.size; omega)))
end Go.Proofs.Ytcajidlekfkjlaa
