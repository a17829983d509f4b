/-
  STAGE 12: Ask.
-/
import Derived.Test.YtlblgfpafdfilaaDoorLM
namespace Go.Proofs.YtlblgfpafdfilaaDoor
open Go.RowKit Go.Sort

section
variable {α : Type} {f : α → List Value} {w : World} {t e : TypeId} {size bytes : Nat} {z : Value} {ops : Array Oper} {o : Oper} {a : Act} {Q : Exit → Act → World → Prop}
set_option maxRecDepth 100000 in
theorem step_appR {Kt : Act → World → Prop} {E : Prop} (K : Kind t e size bytes z) (hk : ∀ x, (f x).length = size) (hone : ∀ x, ∀ u ∈ f x, u.oneCell' = true) (hgd : o.guard = none) (s x : Operand) (ho : o.op = .call { callee := .builtin .append, args := #[s, x], argTypes := #[t, t] })
    (v : Value) (l : List α) (hs : a.eval s = v) (h : OwR w e size f v l) (A : Option Addr) (m c : Nat) (ks : List α) (hx : a.eval x = .slice A m c) (hm : ks.length = m)
    (hr : ∀ i x j u, ks[i]? = some x → (f x)[j]? = some u → ∃ ad, A = some ad ∧ w.cell? (ad.add (i * size + j)) = some u) (hb : (l.length + m) * bytes ≤ 140737488355328) (hle : l.length + m ≤ 140737488355328)
    (hK : ∀ v' w', OwR w' e size f v' (l ++ ks) → w.grownBy w' v.ownBlock → (v'.ownBlock = v.ownBlock ∨ v'.ownBlock = some w.heap.size) → Kt (a.put o.dst v') w') : if Region.wanted o (yielded ops a.tmps) = true then Oper.wp Tryd.prog o a w Kt Q else E := by
  have hw : Region.wanted o (yielded ops a.tmps) = true := by simp [Region.wanted, hgd]
  rw [if_pos hw]
  obtain ⟨v', w', hrun, h2, h3, h4⟩ := run_appR K hk hone o.type v l h A m c ks hm hr hb hle
  unfold Oper.wp execOp
  simp only [ho, resolve, invoke, builtin, Sem.run_bind, Sem.run_pure, Result.andThen_ok, List.map_toArray, List.map_cons, List.map_nil, hs, hx, hrun]
  exact hK _ _ h2 h3 h4
end
/-- one element in a block of its own -/
theorem one_app {α : Type} {f : α → List Value} {k : Nat} (w : World) (e : TypeId) (y : α) : ∀ i x j u, [y][i]? = some x → (f x)[j]? = some u → ∃ ad, some (⟨w.heap.size, 0, none⟩ : Addr) = some ad ∧ (w.alloc (.cells (f y).toArray e)).cell? (ad.add (i * k + j)) = some u := by
  intro i x j u hi hj
  cases i with
  | succ i => simp at hi
  | zero =>
    simp at hi
    subst hi
    refine ⟨_, rfl, ?_⟩
    rw [add_head, (Blk.new w e (f y).toArray).cell]
    simpa using hj
theorem Chg.below {w w' : World} {g : Nat} {v : Value} {ls : List LK} (h : TB w g v ls) (hb : RowKit.Below w.heap.size w w') : Chg w w' g v v ls := ⟨h.up hb, Fr.of_below hb _, fun _ hb => Or.inl hb⟩
def askM (t : Nat) (x : Th) (m : Int) (ls : List LK) : (Bool × Nat) × List LK :=
  if (t == 0 || !mayM x m) = true then ((false, 1), ls) else if ls.any (waitsP t) = true then ((false, 121), ls) else if hasM t x m ls = true then ((true, 0), ls) else if 16384 ≤ ls.length then ((false, 4), ls)
  else ((freeM (ls ++ [⟨t, x, m, false⟩]) ls.length, 0), setH (ls ++ [⟨t, x, m, false⟩]) ls.length (freeM (ls ++ [⟨t, x, m, false⟩]) ls.length))
def AskO (w : World) (g : Nat) (v : Value) (r : (Bool × Nat) × List LK) (e : Ending) (w' : World) : Prop := e = .returned (.tuple #[.bool r.1.1, .int .i64 (r.1.2 : Int)]) ∧ ∃ v', Chg w w' g v v' r.2
theorem boxes2 (w : World) (t : Nat) (x : Th) : ∃ W, (w.alloc (.cells #[.int .u32 (t : Int)] 34)).alloc (box36 x) = W ∧ Below w.heap.size w W ∧ Blk W w.heap.size 34 #[.int .u32 (t : Int)] ∧ Blk W (w.heap.size + 1) 36 (tcs x) := by
  refine ⟨_, rfl, ((Below.refl w.heap.size w).alloc (Nat.le_refl _) _).alloc (by simp) _, (Blk.new w 34 _).alloc _, ?_⟩
  have := Blk.new (w.alloc (.cells #[.int .u32 (t : Int)] 34)) 36 (tcs x)
  rwa [World.size_alloc] at this
set_option maxRecDepth 100000 in
theorem ask_nil (t : Nat) (x : Th) (m : Int) (w : World) : Calls Tryd.prog 20 #[.pointer none, .int .u32 (t : Int), x.agg, .int .i64 m] w fun e w' => e = .returned (.tuple #[.bool false, .int .i64 1]) ∧ Below w.heap.size w w' := by
  obtain ⟨W, hW, hb, b1, b2⟩ := boxes2 w t x
  have HB := Lib.hid hb
  obtain ⟨xr, xi, xa, xb⟩ := x
  simp only [Th.agg, box36, tcs] at hW ⊢
  clear hb b1 b2
  go_enter Tryd.func20, Tryd.ntmps20
  go_upto_region 1 with fail
  clear hW
  go_wp2_with fail
  go_ret2
  exact ⟨rfl, HB.out⟩
set_option maxRecDepth 100000 in
set_option maxHeartbeats 4000000 in
/-- where nothing is asked for anew -/
theorem ask_old (t : Nat) (x : Th) (m : Int) (g : Nat) (v : Value) (ls : List LK) (w : World) (hT : TB w g v ls) (hg : Gw w) (hA : x.a.size ≤ 9223372036854775807) (hB : x.b.size ≤ 9223372036854775807)
    (h : ((t == 0 || !mayM x m) = true ∨ ls.any (waitsP t) = true ∨ hasM t x m ls = true ∨ 16384 ≤ ls.length)) :
    Calls Tryd.prog 20 #[.pointer (some ⟨g, 0, none⟩), .int .u32 (t : Int), x.agg, .int .i64 m] w (AskO w g v (askM t x m ls)) := by
  obtain ⟨W, hW, hb, b1, b2⟩ := boxes2 w t x
  have HT := Lib.hid hT
  have HB := Lib.hid hb
  have H1 := Lib.hid b1
  have HE := Lib.hid (fun (W' : World) (h : RowKit.Below W.heap.size W W') => Chg.below hT (below_trans hb h))
  obtain ⟨A, c, rfl, hc, h0, hTR⟩ := hT.tr
  have HM := Lib.hid (may_any x m hA hB W)
  have HS := Lib.hid (fun (W' : World) (h : RowKit.Below W.heap.size W W') => some_any 43 (Or.inl rfl) #[.pointer (some ⟨w.heap.size, 0, none⟩)] (waitsP t) g A c ls W' (hTR.up (below_trans hb h)) (fun k l b hl e W2 h2 => askP_any t _ l b _ W2 (by
      obtain ⟨b2, e2, hc⟩ := hTR.row k l hl
      obtain rfl : b2 = b := by rw [e2] at e; injection e with e; injection e
      exact (hc.up (below_trans hb h)).up h2) ((H1.out.below (below_trans h h2) H1.out.lt).cell 0)))
  have HH := Lib.hid (fun (W' : World) (h : RowKit.Below W.heap.size W W') => has_any g A c ls W' (hTR.up (below_trans hb h)) (hg.below (below_trans hb h)) t x m hA hB)
  have HX := Lib.hid b2
  obtain ⟨c0, c1, c2, c3⟩ := blk36 b2
  have d0 := b1.cell 0
  have HTR := Lib.hid (hTR.up hb)
  simp only [List.getElem?_toArray, List.getElem?_cons_zero] at d0
  unfold askM
  generalize ls.any (waitsP t) = p at HS h ⊢
  generalize hasM t x m ls = q at HH h ⊢
  obtain ⟨z, hz⟩ : ∃ z, (t == 0) = z := ⟨_, rfl⟩
  have hz2 : ((t : Int) == 0) = z := by rw [← hz]; exact nbeq t 0
  obtain ⟨n, hn⟩ : ∃ n, n = ls.length := ⟨_, rfl⟩
  rw [← hn] at h ⊢
  have HN := Lib.hid hn
  obtain ⟨s, hs⟩ : ∃ s, decide (16384 ≤ n) = s := ⟨_, rfl⟩
  have hs2 : decide ((n : Int) ≥ 16384) = s := by rw [← hs, decide_eq_decide]; omega
  obtain ⟨xr, xi, xa, xb⟩ := x
  generalize mayM _ _ = my at HM h ⊢
  rw [hz] at h ⊢
  clear hz
  simp only [Th.agg, box36, tcs] at hW HM HH c0 c1 c2 c3 ⊢
  clear hb b1 b2 hT hg hA hB hTR h0 hc hn
  cases z <;> cases my <;> cases p <;> cases q <;> cases s <;> (try (exfalso; simp at h hs <;> omega)) <;> clear h
  all_goals
    first | rw [if_pos (by decide)] | rw [if_neg (by decide)]
    try first | rw [if_pos (by decide)] | rw [if_neg (by decide)]
    try first | rw [if_pos (by decide)] | rw [if_neg (by decide)]
    try rw [if_pos (of_decide_eq_true hs)]
    go_enter Tryd.func20, Tryd.ntmps20
    go_upto_region 1 with fail
    clear hW
    go_wp2_with (first
      | (go_at_call 41; with_reducible refine HM.out.mono ?_; rintro e w1 ⟨rfl, hb1⟩; have HB1 := Lib.hid hb1; obtain ⟨c0, c1, c2, c3⟩ := blk36 (HX.out.below hb1 HX.out.lt); have d0 := (H1.out.below hb1 H1.out.lt).cell 0; simp only [List.getElem?_toArray, List.getElem?_cons_zero] at d0; have HZ := Lib.hid HB1.out; clear hb1)
      | (go_at_call 42; with_reducible refine (HS.out _ HB1.out).mono ?_; rintro e w2 ⟨rfl, hb2⟩; have HB2 := Lib.hid (below_trans HB1.out hb2); obtain ⟨c0, c1, c2, c3⟩ := blk36 (HX.out.below HB2.out HX.out.lt); have d0 := (H1.out.below HB2.out H1.out.lt).cell 0; simp only [List.getElem?_toArray, List.getElem?_cons_zero] at d0; have HZ := Lib.hid HB2.out; clear hb2)
      | (go_at_call 21; with_reducible refine (HH.out _ HB2.out).mono ?_; rintro e w3 ⟨rfl, hb3⟩; have HB3 := Lib.hid (below_trans HB2.out hb3); have t0 := (HTR.out.up HB3.out).blk.cell 0; simp only [List.getElem?_toArray, List.getElem?_cons_zero] at t0; rw [← HN.out] at t0; have HZ := Lib.hid HB3.out; clear hb3))
    go_ret2
    first
    | exact ⟨rfl, _, by have := HE.out _ HZ.out; rwa [← HN.out] at this⟩
    | exact ⟨rfl, _, by have := HE.out _ (Below.refl _ _); rwa [← HN.out] at this⟩
end Go.Proofs.YtlblgfpafdfilaaDoor
