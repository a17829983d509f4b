/-
  ROWS OF VALUES OF THE CALL's OWN; THE WALK OF lent.
-/
import Derived.Test.YtjhlfgomoookjaaWalkC
namespace Go.Proofs.Ytjhlfgomoookjaa
open Go.RowKit Go.Sort
attribute [local go_sem high] run_eqv run_neqv run_eqs

/-- values as cells -/
def vcs : List V → List Value
  | [] => []
  | v :: r => .int .i64 v.k :: .int .i64 v.n :: .string v.s :: vcs r
theorem vcs_len (vs : List V) : (vcs vs).length = vs.length * 3 := by
  induction vs with
  | nil => rfl
  | cons v r ih => simp [vcs, ih]; omega
theorem vcs_append (a b : List V) : vcs (a ++ b) = vcs a ++ vcs b := by
  induction a with
  | nil => rfl
  | cons v r ih => simp [vcs, ih]
theorem vcs_one (vs : List V) : ∀ u ∈ vcs vs, u.oneCell' = true := by
  induction vs with
  | nil => intro u hu; simp [vcs] at hu
  | cons v r ih =>
    intro u hu
    simp only [vcs, List.mem_cons] at hu
    rcases hu with rfl | rfl | rfl | hu
    · rfl
    · rfl
    · rfl
    · exact ih u hu
theorem vcs_at (vs : List V) (i : Nat) (v : V) (h : vs[i]? = some v) : (vcs vs)[i * 3]? = some (.int .i64 v.k) ∧ (vcs vs)[i * 3 + 1]? = some (.int .i64 v.n) ∧ (vcs vs)[i * 3 + 2]? = some (.string v.s) := by
  induction vs generalizing i with
  | nil => simp at h
  | cons u r ih =>
    cases i with
    | zero => simp at h; subst h; simp [vcs]
    | succ i =>
      simp at h
      have := ih i h
      simp only [vcs, show (i + 1) * 3 = i * 3 + 1 + 1 + 1 by omega, show i * 3 + 1 + 1 + 1 + 1 = (i * 3 + 1) + 1 + 1 + 1 by omega, show i * 3 + 1 + 1 + 1 + 2 = (i * 3 + 2) + 1 + 1 + 1 by omega, List.getElem?_cons_succ]
      exact this
theorem vcs_of (vs : List V) (j : Nat) (u : Value) (h : (vcs vs)[j]? = some u) : ∃ i v, vs[i]? = some v ∧ ((j = i * 3 ∧ u = .int .i64 v.k) ∨ (j = i * 3 + 1 ∧ u = .int .i64 v.n) ∨ (j = i * 3 + 2 ∧ u = .string v.s)) := by
  have hl : j < (vcs vs).length := by
    rcases Nat.lt_or_ge j (vcs vs).length with h1 | h1
    · exact h1
    · rw [List.getElem?_eq_none h1] at h; cases h
  rw [vcs_len] at hl
  have hi : j / 3 < vs.length := by omega
  have hv : vs[j / 3]? = some vs[j / 3] := List.getElem?_eq_getElem hi
  obtain ⟨a, b, c⟩ := vcs_at vs _ _ hv
  refine ⟨j / 3, _, hv, ?_⟩
  have hr : j = j / 3 * 3 ∨ j = j / 3 * 3 + 1 ∨ j = j / 3 * 3 + 2 := by omega
  rcases hr with hr | hr | hr
  · left; refine ⟨hr, ?_⟩; rw [← hr] at a; rw [a] at h; injection h with h; exact h.symm
  · right; left; refine ⟨hr, ?_⟩; rw [← hr] at b; rw [b] at h; injection h with h; exact h.symm
  · right; right; refine ⟨hr, ?_⟩; rw [← hr] at c; rw [c] at h; injection h with h; exact h.symm

/-- v is a slice of n values, the row of vs; its block, if it has one, is one of S. -/
def OwV (w : World) (S : Nat → Prop) (v : Value) (n : Nat) (vs : List V) : Prop :=
  w.ownsRow 0 34 3 v n (vcs vs) ∧ (∀ x ∈ vs, VOk x) ∧ ∀ k, v.ownBlock = some k → S k
section
variable {w w' : World} {v : Value} {n : Nat} {vs : List V} {S T : Nat → Prop}
theorem OwV.len (h : OwV w S v n vs) : vs.length = n := by
  have := h.1.1
  rw [vcs_len] at this
  omega
theorem OwV.nil_ (w : World) (S : Nat → Prop) : OwV w S (.slice none 0 0) 0 [] := ⟨World.ownsRow_nil w 0 34 3, by simp, fun k hk => by simp [Value.ownBlock] at hk⟩
theorem OwV.made (w : World) (S : Nat → Prop) (hS : S w.heap.size) : OwV (w.alloc (.cells #[] 34)) S (.slice (some ⟨w.heap.size, 0, none⟩) 0 0) 0 [] :=
  ⟨World.ownsRow_made (e := 34) (size := 3) w #[] 0 (Nat.zero_le _) (by simp [maxLen]) (by simp), by simp, fun k hk => by simp [Value.ownBlock] at hk; subst hk; exact hS⟩
theorem OwV.mono (h : OwV w S v n vs) (hd : ∀ b, b < w.heap.size → S b → T b) : OwV w T v n vs := ⟨h.1, h.2.1, fun k hk => hd k (h.1.lt k hk).2 (h.2.2 k hk)⟩
theorem OwV.drew (h : OwV w S v n vs) : OwV w.drew S v n vs := h
theorem OwV.alloc (h : OwV w S v n vs) (o : Obj) : OwV (w.alloc o) S v n vs := ⟨h.1.alloc o, h.2.1, h.2.2⟩
theorem OwV.below {B : Nat} (h : OwV w S v n vs) (hb : Below B w w') (hS : ∀ b, S b → b < B) : OwV w' S v n vs := by
  obtain ⟨⟨h1, h2⟩, h3, h4⟩ := h
  refine ⟨⟨h1, ?_⟩, h3, h4⟩
  rcases h2 with h2 | ⟨g, cap, cur, hv, hg, hh, r⟩
  · exact Or.inl h2
  · exact Or.inr ⟨g, cap, cur, hv, hg, (hb.block g (hS g (h4 g (by rw [hv]; rfl)))).trans hh, r⟩
theorem OwV.reads (h : OwV w S v n vs) (hn : n ≤ 9223372036854775806) : ∃ A c, v = .slice A n c ∧ n ≤ c ∧ c ≤ maxLen ∧ (A = none → c = 0) ∧ RV w A n vs := by
  have hlen := h.len
  obtain ⟨⟨h1, h2⟩, hl, hS⟩ := h
  rcases h2 with ⟨rfl, h0⟩ | ⟨g, cap, cur, rfl, _, hg, hc, hm, hcur, htake⟩
  · subst h0
    exact ⟨none, 0, rfl, Nat.le_refl _, Nat.zero_le _, fun _ => rfl, hlen, hl, hn, fun h => absurd h (by omega)⟩
  · refine ⟨_, _, rfl, hc, hm, (fun e => by cases e), hlen, hl, hn, fun _ => ⟨g, 0, rfl, Blk.lt hg, fun i x hi => ?_⟩⟩
    obtain ⟨a, b, c⟩ := vcs_at vs i x hi
    have hil : i < vs.length := by
      rcases Nat.lt_or_ge i vs.length with h | h
      · exact h
      · rw [List.getElem?_eq_none h] at hi; cases hi
    have key : ∀ j u, j < n * 3 → (vcs vs)[j]? = some u → w.cell? ⟨g, j, none⟩ = some u := by
      intro j u hj hu
      rw [Blk.cell hg j]
      rw [← htake, List.getElem?_take_of_lt hj] at hu
      simpa using hu
    rw [Nat.zero_add]
    exact ⟨key _ _ (by omega) a, key _ _ (by omega) b, key _ _ (by omega) c⟩
end

theorem info34 : (Try.prog.info? 34).map (fun i => (i.zero, i.size, i.bytes)) = some (some (.agg #[.int .i64 0, .int .i64 0, .string ⟨#[]⟩]), 3, 32) := by kernel_rfl
theorem RV.cells {w : World} {g o m : Nat} {ks : List V} (hr : RV w (some ⟨g, o, none⟩) m ks) : ∀ j u, (vcs ks)[j]? = some u → w.cell? ((⟨g, o, none⟩ : Addr).add j) = some u := by
  intro j u hu
  obtain ⟨i, x, hi, hx⟩ := vcs_of ks j u hu
  have hil : i < ks.length := by
    rcases Nat.lt_or_ge i ks.length with h | h
    · exact h
    · rw [List.getElem?_eq_none h] at hi; cases hi
  obtain ⟨h1, _, _, h3⟩ := hr
  obtain ⟨g', o', e, _, hc⟩ := h3 (by omega)
  injection e with e
  injection e with e1 e2
  subst e1 e2
  have hadd : (⟨g, o, none⟩ : Addr).add j = ⟨g, o + j, none⟩ := by unfold Addr.add; split <;> simp_all
  obtain ⟨c0, c1, c2⟩ := hc i x hi
  rw [hadd]
  rcases hx with ⟨rfl, rfl⟩ | ⟨rfl, rfl⟩ | ⟨rfl, rfl⟩
  · exact c0
  · exact c1
  · exact c2
section
variable {w : World} {S : Nat → Prop}
theorem run_appV (ty : TypeId) (v : Value) (n : Nat) (vs : List V) (h : OwV w S v n vs) (A : Option Addr) (m c : Nat) (ks : List V) (hr : RV w A m ks) (hb : (n + m) * 32 ≤ 140737488355328) :
    ∃ v' w', (Builtin.append_ #[22, 22] ty #[v, .slice A m c]).run Try.prog w = .ok v' w' ∧ OwV w' (fun b => S b ∨ w.heap.size ≤ b) v' (n + m) (vs ++ ks) ∧ w.grownBy w' v.ownBlock := by
  obtain ⟨i0, hi, hz0, hz1, hz2⟩ := info_parts info34
  have hok : ∀ x ∈ vs ++ ks, VOk x := by
    intro x hx
    rcases List.mem_append.1 hx with hx | hx
    · exact h.2.1 x hx
    · exact hr.2.1 x hx
  rcases A with _ | ad
  · have hm : m = 0 := by
      rcases Nat.eq_zero_or_pos m with h0 | h0
      · exact h0
      · obtain ⟨_, _, e, _⟩ := hr.2.2.2 h0
        cases e
    subst hm
    have hk : ks = [] := List.eq_nil_of_length_eq_zero hr.1
    subst hk
    refine ⟨v, w, ?_, by simpa using h.mono fun b _ hS => Or.inl hS, World.grownBy.refl w _⟩
    rcases h.1.2 with ⟨rfl, rfl⟩ | ⟨g, cap, cur, rfl, _, _, hnc, _⟩
    · simp [Builtin.append_, run_underlying Try.underlying22, sizeOf, typeInfo, hi, Builtin.lenOf, Builtin.firstCells]
    · simp [Builtin.append_, run_underlying Try.underlying22, sizeOf, typeInfo, hi, Builtin.lenOf, Builtin.firstCells, hnc, storeCells]
  · have hcells : ∀ j u, (vcs ks)[j]? = some u → w.cell? (ad.add j) = some u := by
      rcases Nat.eq_zero_or_pos m with hm | hm
      · have hk : ks = [] := List.eq_nil_of_length_eq_zero (by rw [hr.1]; exact hm)
        subst hk
        intro j u hj
        simp [vcs] at hj
      · obtain ⟨g, o, e, _, _⟩ := hr.2.2.2 hm
        injection e with e
        subst e
        exact hr.cells
    obtain ⟨v', w', h1, h2, h3, _, h5⟩ := run_append_own_at (P := Try.prog) w 0 22 ty 34 i0 (.agg #[.int .i64 0, .int .i64 0, .string ⟨#[]⟩]) 3 32 Try.underlying22 hi hz0 hz1 hz2 (by decide) (by decide) v n (vcs vs) h.1 ad m c (vcs ks)
      (by rw [vcs_len, hr.1]) hcells (vcs_one ks) (by simp only [maxLen]; omega) hb (Nat.zero_le _)
    rw [← vcs_append] at h2
    refine ⟨v', w', h1, ⟨h2, hok, fun q hq => ?_⟩, h3⟩
    rcases h5 with h5 | h5
    · exact Or.inl (h.2.2 q (by rw [← h5]; exact hq))
    · rw [h5] at hq
      injection hq with hq
      exact Or.inr (by omega)

variable {ops : Array Oper} {rest : List Oper} {o : Oper} {a : Act} {Q : Exit → Act → World → Prop}
theorem wpList_appV (hgd : o.guard = none) (s x : Operand) (ho : o.op = .call { callee := .builtin .append, args := #[s, x], argTypes := #[22, 22] })
    (v : Value) (n : Nat) (vs : List V) (hs : a.eval s = v) (h : OwV w S v n vs) (A : Option Addr) (m c : Nat) (ks : List V) (hx : a.eval x = .slice A m c) (hr : RV w A m ks) (hb : (n + m) * 32 ≤ 140737488355328)
    (hK : ∀ v' w', OwV w' (fun b => S b ∨ w.heap.size ≤ b) v' (n + m) (vs ++ ks) → w.grownBy w' v.ownBlock → wpList Try.prog ops Q rest (a.put o.dst v') w') : wpList Try.prog ops Q (o :: rest) a w := by
  refine wpList_plain hgd fun K hk => ?_
  obtain ⟨v', w', hrun, h2, h3⟩ := run_appV o.type v n vs h A m c ks hr hb
  unfold Oper.wp execOp
  simp only [ho, resolve, invoke, builtin, Sem.run_bind, Sem.run_pure, Result.andThen_ok, List.map_toArray, List.map_cons, List.map_nil, hs, hx, hrun]
  exact hk _ _ (hK v' w' h2 h3)
end
/-- one value, in a block of its own -/
theorem RV.one (w : World) (k n : Int) (s : ByteArray) (b : Nat) (hb : b = w.heap.size) (hok : VOk ⟨k, n, s⟩) : RV (w.alloc (.cells #[.int .i64 k, .int .i64 n, .string s] 34)) (some ⟨b, 0, none⟩) 1 [⟨k, n, s⟩] := by
  subst hb
  refine ⟨rfl, by simpa using hok, by omega, fun _ => ⟨_, _, rfl, by simp, fun i v hi => ?_⟩⟩
  cases i with
  | zero =>
    simp at hi
    subst hi
    simpa using Box.new w k n s
  | succ i => simp at hi
theorem OwV.blk {w : World} {S : Nat → Prop} {v : Value} {n : Nat} {vs : List V} (h : OwV w S v n vs) (hn : 0 < n) : ∃ g c, v = .slice (some ⟨g, 0, none⟩) n c ∧ S g ∧ n ≤ c ∧ c ≤ maxLen := by
  obtain ⟨⟨h1, h2⟩, hl, hS⟩ := h
  rcases h2 with ⟨rfl, h0⟩ | ⟨g, cap, cur, rfl, _, hg, hc, hm, _⟩
  · omega
  · exact ⟨g, cap, rfl, hS g rfl, hc, hm⟩
/-- a row of values that grows, of the call that began in w -/
def OwnV (w wr : World) (v : Value) (vs : List V) : Prop := OwV wr (fun b => w.heap.size ≤ b) v vs.length vs ∧ Below w.heap.size w wr
theorem OwnV.step {w wr w1 : World} {v v' : Value} {n' : Nat} {l l' : List V} (h : OwnV w wr v l) (hgrow : wr.grownBy w1 v.ownBlock) (hn : OwV w1 (fun b => w.heap.size ≤ b ∨ wr.heap.size ≤ b) v' n' l') : OwnV w w1 v' l' := by
  have hs := h.2.size
  have hl := hn.len
  subst hl
  exact ⟨hn.mono fun b _ hb => by omega, h.2.grown hgrow hs fun k hk => h.1.2.2 k hk⟩
theorem OwnV.alloc {w wr : World} {v : Value} {l : List V} (h : OwnV w wr v l) (o : Obj) : OwnV w (wr.alloc o) v l := ⟨h.1.alloc o, h.2.alloc h.2.size o⟩
theorem OwnV.nil_at {w wr : World} (h : Below w.heap.size w wr) : OwnV w wr (.slice none 0 0) [] := ⟨OwV.nil_ _ _, h⟩
theorem OwnV.made (w : World) : OwnV w (w.alloc (.cells #[] 34)) (.slice (some ⟨w.heap.size, 0, none⟩) 0 0) [] := ⟨OwV.made _ _ (Nat.le_refl _), (Below.refl _ _).alloc (Nat.le_refl _) _⟩

/-! ### lent -/
def mark : V := ⟨77, 0, ⟨#[]⟩⟩
/-- a row in memory of its own, with a mark behind it -/
def Lent (w : World) (vs : List V) (g c : Nat) (w' : World) : Prop :=
  vs.length + 1 ≤ c ∧ c ≤ maxLen ∧ RV w' (some ⟨g, 0, none⟩) (vs.length + 1) (vs ++ [mark]) ∧ w.heap.size ≤ g ∧ g < w'.heap.size ∧ Below w.heap.size w w'
theorem RV.init {w : World} {A : Option Addr} {vs : List V} {x : V} (h : RV w A (vs.length + 1) (vs ++ [x])) : RV w A vs.length vs := by
  obtain ⟨h1, h2, h2', h3⟩ := h
  refine ⟨rfl, fun v hv => h2 v (by simp [hv]), by omega, fun hn => ?_⟩
  obtain ⟨g, o, e, hg, hc⟩ := h3 (by omega)
  refine ⟨g, o, e, hg, fun i v hi => hc i v ?_⟩
  have hil : i < vs.length := by
    rcases Nat.lt_or_ge i vs.length with h | h
    · exact h
    · rw [List.getElem?_eq_none h] at hi; cases hi
  rw [List.getElem?_append_left hil]
  exact hi
theorem Lent.rv {w w' : World} {vs : List V} {g c : Nat} (h : Lent w vs g c w') : RV w' (some ⟨g, 0, none⟩) vs.length vs := h.2.2.1.init
theorem mark_ok : VOk mark := ⟨by simp [N64, mark], by simp [mark]; exact Nat.zero_le _⟩
set_option maxRecDepth 100000 in
set_option maxHeartbeats 1000000 in
theorem lent_any (A : Option Addr) (n c : Nat) (vs : List V) (w : World) (h : RV w A n vs) (hb : (n + 1) * 32 ≤ 140737488355328) :
    Calls Try.prog 8 #[.slice A n c] w fun e w' => ∃ g c', e = .returned (.slice (some ⟨g, 0, none⟩) n c') ∧ Lent w vs g c' w' := by
  have hl := h.1
  have HR := Lib.hid (h.below ((Below.refl _ w).alloc (Nat.le_refl _) (.cells #[] 34)))
  have HO := Lib.hid (OwnV.made w)
  clear h
  go_enter Try.func8, Try.ntmps8
  go_wp2_with (first
    | (at_builtin; refine wpList_appV rfl (.tmp 4) (.tmp 5) rfl _ 0 [] rfl HO.out.1 A n c vs rfl HR.out (by omega) ?_; intro v1 w1 hown hgrow; have HS := Lib.hid (OwnV.step HO.out hgrow hown); clear hown hgrow)
    | (at_builtin; go_must (refine wpList_appV rfl (.tmp 7) (.tmp 9) rfl v1 _ ([] ++ vs) rfl (HS.out.alloc _).1 _ 1 1 [mark] rfl (by exact RV.one _ _ _ _ _ (by simp) mark_ok) (by simp; omega) ?_); intro v2 w2 hown hgrow; have HS2 := Lib.hid (OwnV.step (HS.out.alloc _) hgrow hown); have hown2 := HS2.out.1; obtain ⟨g, c2, rfl, hg, hc, hm⟩ := hown2.blk (by simp); have HX := Lib.hid hown2; have hcc : n ≤ c2 := (by simp at hc; omega); clear hown hgrow hown2))
  go_ret
  have ho := HX.out
  simp only [List.nil_append] at ho hc
  have hlen : (vs ++ [mark]).length = vs.length + 1 := by simp
  rw [hlen] at ho hc
  obtain ⟨A3, c3, e, _, _, _, hr⟩ := ho.reads (by omega)
  injection e with e1 e2 e3
  subst e1 e3
  have hb2 := HS2.out.2
  exact ⟨g, c2, rfl, hc, hm, hr, hg, (by obtain ⟨_, _, e, hlt, _⟩ := hr.2.2.2 (by omega); injection e with e; injection e with e; subst e; exact hlt), hb2⟩
end Go.Proofs.Ytjhlfgomoookjaa
