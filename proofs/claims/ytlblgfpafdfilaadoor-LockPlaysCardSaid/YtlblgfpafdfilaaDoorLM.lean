/-
STAGE 12: hold. STAGE 12: Ask.
-/
import Derived.Test.YtlblgfpafdfilaaDoorLG
import Derived.Test.YtlblgfpafdfilaaDoorLJ
namespace Go.Proofs.YtlblgfpafdfilaaDoor
open Go.RowKit Go.Sort

theorem Cs.held {w : World} {b o : Nat} {l : LK} (h : Cs w b o l) : w.cell? ⟨b, o + 6, none⟩ = some (.bool l.h) := h.2.2.2.2.2.2
/-- the lock at place p is held, or not -/
def setH (ls : List LK) (p : Nat) (r : Bool) : List LK := ls.set p { (ls.getD p okz) with h := r }
theorem setH_ok {ls : List LK} {p : Nat} {r : Bool} (h : ∀ l ∈ ls, l.Ok) (hp : p < ls.length) : ∀ l ∈ setH ls p r, l.Ok := by
  intro l hl
  rcases List.mem_or_eq_of_mem_set hl with hl | rfl
  · exact h l hl
  · have hm : ls.getD p okz ∈ ls := by
      rw [List.getD_eq_getElem?_getD, List.getElem?_eq_getElem hp]
      exact List.getElem_mem _
    have := h _ hm
    exact ⟨this.t, this.i, this.a, this.b, this.m1, this.m4⟩
/-- a table changed: nothing else -/
structure Chg (w w' : World) (g : Nat) (v v' : Value) (ls' : List LK) : Prop where
  tb : TB w' g v' ls'
  fr : Fr w w' fun b => b = g ∨ v.ownBlock = some b
  own : ∀ b, v'.ownBlock = some b → v.ownBlock = some b ∨ w.heap.size ≤ b
theorem Chg.gw {w w' : World} {g : Nat} {v v' : Value} {ls ls' : List LK} (h : Chg w w' g v v' ls') (hT : TB w g v ls) (hg : Gw w) : Gw w' := hg.keep h.fr fun b hb => hb.elim (fun e => by rw [e]; exact hT.g2) fun e => hT.v2 b e
set_option maxRecDepth 100000 in
set_option maxHeartbeats 2000000 in
theorem hold_any (g : Nat) (v : Value) (ls : List LK) (w : World) (hT : TB w g v ls) (hg : Gw w) (p : Nat) (hp : p < ls.length) :
    Calls Tryd.prog 40 #[.pointer (some ⟨g, 0, none⟩), .int .i64 (p : Int)] w fun e w' => e = .returned (.bool (freeM ls p)) ∧ Chg w w' g v v (setH ls p (freeM ls p)) := by
  obtain ⟨A, c, rfl, hc, h0, hTR⟩ := hT.tr
  have hl : ls[p]? = some ls[p] := List.getElem?_eq_getElem hp
  have HGD := Lib.hid (getD_of hl)
  generalize ls[p] = l at hl HGD
  obtain ⟨b, rfl, hcs⟩ := hTR.row p l hl
  have hp2 : (p : Int) < (ls.length : Int) := by omega
  have HI := Lib.hid ((isFree_any g (some ⟨b, 0, none⟩) c ls w.drew (hTR.up (Below.refl _ _).drew) (hg.below (Below.refl _ _).drew) p hp).mono fun e w' (h : e = .returned (.bool (freeM ls p)) ∧ RowKit.Below w.drew.heap.size w.drew w') => (⟨h.1, below_drew h.2⟩ : e = .returned (.bool (freeM ls p)) ∧ RowKit.Below w.heap.size w w'))
  have HCS := Lib.hid hcs
  have hne : ¬ b = g := fun e => hT.ne (by rw [← e]; rfl)
  have hne2 : ¬ g = b := fun e => hne e.symm
  have HT := Lib.hid hT
  have HL := Lib.hid hl
  have HP := Lib.hid hp
  have c0 := hT.blk.cell 0
  have f6 := hT.own.frozen (p * 7 + 6)
  simp only [List.getElem?_toArray, List.getElem?_cons_zero] at c0
  unfold setH
  rw [HGD.out]
  generalize freeM ls p = r at HI ⊢
  obtain ⟨n, hn⟩ : ∃ n, n = ls.length := ⟨_, rfl⟩
  rw [← hn] at c0 hp2
  have HN := Lib.hid hn
  clear hT hg hl hTR hcs hp h0 hc hn
  go_enter Tryd.func40, Tryd.ntmps40
  go_upto_region 1 with fail
  go_region_held3 (fun w' => w'.cell? ⟨g, 0, none⟩ = some (.slice (some ⟨b, 0, none⟩) n c)) (go_keep) (first
    | (go_at_call 64; with_reducible refine HI.out.mono ?_; rintro e w1 ⟨rfl, hb1⟩; have HB1 := Lib.hid hb1; have HT1 := Lib.hid (HT.out.up hb1); have k0 := HT1.out.blk.cell 0; simp only [List.getElem?_toArray, List.getElem?_cons_zero] at k0; rw [← HN.out] at k0; have k6 := HT1.out.own.frozen (p * 7 + 6); have k7 := (HCS.out.up HB1.out).held; clear hb1))
  obtain ⟨w2, hw2⟩ : ∃ w2, w1.setCell ⟨b, p * 7 + 6, none⟩ (.bool r) = w2 := ⟨_, rfl⟩
  have hlo := HT1.out.ok l (List.mem_of_getElem? HL.out)
  have HC := Lib.hid (show Chg w w2 g (.slice (some ⟨b, 0, none⟩) ls.length c) (.slice (some ⟨b, 0, none⟩) ls.length c) (ls.set p { l with h := r }) by
    rw [← hw2]
    refine ⟨⟨HT1.out.blk.far hne2 _, HT1.out.own.set_ lf_len HL.out (by decide) rfl, fun y hy => ?_, by rw [List.length_set]; exact HT1.out.few, HT1.out.g2, HT1.out.v2⟩, ?_, fun q hq => Or.inl hq⟩
    · rcases List.mem_or_eq_of_mem_set hy with hy | rfl
      · exact HT1.out.ok y hy
      · exact ⟨hlo.t, hlo.i, hlo.a, hlo.b, hlo.m1, hlo.m4⟩
    · exact ((Fr.of_below HB1.out _).setCell (p := ⟨b, p * 7 + 6, none⟩) (Or.inl (Or.inr rfl)) _))
  have c2 : w2.cell? ⟨g, 0, none⟩ = some (.slice (some ⟨b, 0, none⟩) n c) := by
    have := HC.out.tb.blk.cell 0
    simp only [List.getElem?_toArray, List.getElem?_cons_zero] at this
    rwa [← HN.out] at this
  have c3 : w2.cell? ⟨b, p * 7 + 6, none⟩ = some (.bool r) := by
    obtain ⟨b', c', e', _, hat⟩ := HC.out.tb.own.at_ lf_len (i := p) (x := { l with h := r }) (by rw [List.getElem?_set_self HP.out])
    injection e' with e1 e2 e3
    injection e1 with e1
    injection e1 with e1
    subst e1
    exact hat 6 _ rfl
  rw [hw2]
  clear hw2 hlo k0 k6 k7 c0 f6
  go_wp2_with fail
  go_ret
  exact ⟨rfl, HC.out⟩
end Go.Proofs.YtlblgfpafdfilaaDoor
namespace Go.Proofs.YtlblgfpafdfilaaDoor
open Go.RowKit Go.Sort

section
variable {α : Type} {f : α → List Value} {w : World} {t e : TypeId} {size bytes : Nat} {z : Value} {ops : Array Oper} {o : Oper} {a : Act} {Q : Exit → Act → World → Prop}
set_option maxRecDepth 100000 in
theorem step_appR {Kt : Act → World → Prop} {E : Prop} (K : Kind t e size bytes z) (hk : ∀ x, (f x).length = size) (hone : ∀ x, ∀ u ∈ f x, u.oneCell' = true) (hgd : o.guard = none) (s x : Operand) (ho : o.op = .call { callee := .builtin .append, args := #[s, x], argTypes := #[t, t] })
    (v : Value) (l : List α) (hs : a.eval s = v) (h : OwR w e size f v l) (A : Option Addr) (m c : Nat) (ks : List α) (hx : a.eval x = .slice A m c) (hm : ks.length = m)
    (hr : ∀ i x j u, ks[i]? = some x → (f x)[j]? = some u → ∃ ad, A = some ad ∧ w.cell? (ad.add (i * size + j)) = some u) (hb : (l.length + m) * bytes ≤ 140737488355328) (hle : l.length + m ≤ 140737488355328)
    (hK : ∀ v' w', OwR w' e size f v' (l ++ ks) → w.grownBy w' v.ownBlock → (v'.ownBlock = v.ownBlock ∨ v'.ownBlock = some w.heap.size) → Kt (a.put o.dst v') w') : if Region.wanted o (yielded ops a.tmps) = true then Oper.wp Tryd.prog o a w Kt Q else E := by
  have hw : Region.wanted o (yielded ops a.tmps) = true := by simp [Region.wanted, hgd]
  rw [if_pos hw]
  obtain ⟨v', w', hrun, h2, h3, h4⟩ := run_appR K hk hone o.type v l h A m c ks hm hr hb hle
  unfold Oper.wp execOp
  simp only [ho, resolve, invoke, builtin, Sem.run_bind, Sem.run_pure, Result.andThen_ok, List.map_toArray, List.map_cons, List.map_nil, hs, hx, hrun]
  exact hK _ _ h2 h3 h4
end
/-- one element in a block of its own -/
theorem one_app {α : Type} {f : α → List Value} {k : Nat} (w : World) (e : TypeId) (y : α) : ∀ i x j u, [y][i]? = some x → (f x)[j]? = some u → ∃ ad, some (⟨w.heap.size, 0, none⟩ : Addr) = some ad ∧ (w.alloc (.cells (f y).toArray e)).cell? (ad.add (i * k + j)) = some u := by
  intro i x j u hi hj
  cases i with
  | succ i => simp at hi
  | zero =>
    simp at hi
    subst hi
    refine ⟨_, rfl, ?_⟩
    rw [add_head, (Blk.new w e (f y).toArray).cell]
    simpa using hj
theorem Chg.below {w w' : World} {g : Nat} {v : Value} {ls : List LK} (h : TB w g v ls) (hb : RowKit.Below w.heap.size w w') : Chg w w' g v v ls := ⟨h.up hb, Fr.of_below hb _, fun _ hb => Or.inl hb⟩
def askM (t : Nat) (x : Th) (m : Int) (ls : List LK) : (Bool × Nat) × List LK :=
  if (t == 0 || !mayM x m) = true then ((false, 1), ls) else if ls.any (waitsP t) = true then ((false, 121), ls) else if hasM t x m ls = true then ((true, 0), ls) else if 16384 ≤ ls.length then ((false, 4), ls)
  else ((freeM (ls ++ [⟨t, x, m, false⟩]) ls.length, 0), setH (ls ++ [⟨t, x, m, false⟩]) ls.length (freeM (ls ++ [⟨t, x, m, false⟩]) ls.length))
def AskO (w : World) (g : Nat) (v : Value) (r : (Bool × Nat) × List LK) (e : Ending) (w' : World) : Prop := e = .returned (.tuple #[.bool r.1.1, .int .i64 (r.1.2 : Int)]) ∧ ∃ v', Chg w w' g v v' r.2
theorem boxes2 (w : World) (t : Nat) (x : Th) : ∃ W, (w.alloc (.cells #[.int .u32 (t : Int)] 34)).alloc (box36 x) = W ∧ Below w.heap.size w W ∧ Blk W w.heap.size 34 #[.int .u32 (t : Int)] ∧ Blk W (w.heap.size + 1) 36 (tcs x) := by
  refine ⟨_, rfl, ((Below.refl w.heap.size w).alloc (Nat.le_refl _) _).alloc (by simp) _, (Blk.new w 34 _).alloc _, ?_⟩
  have := Blk.new (w.alloc (.cells #[.int .u32 (t : Int)] 34)) 36 (tcs x)
  rwa [World.size_alloc] at this
set_option maxRecDepth 100000 in
theorem ask_nil (t : Nat) (x : Th) (m : Int) (w : World) : Calls Tryd.prog 20 #[.pointer none, .int .u32 (t : Int), x.agg, .int .i64 m] w fun e w' => e = .returned (.tuple #[.bool false, .int .i64 1]) ∧ Below w.heap.size w w' := by
  obtain ⟨W, hW, hb, b1, b2⟩ := boxes2 w t x
  have HB := Lib.hid hb
  obtain ⟨xr, xi, xa, xb⟩ := x
  simp only [Th.agg, box36, tcs] at hW ⊢
  clear hb b1 b2
  go_enter Tryd.func20, Tryd.ntmps20
  go_upto_region 1 with fail
  clear hW
  go_wp2_with fail
  go_ret2
  exact ⟨rfl, HB.out⟩
set_option maxRecDepth 100000 in
set_option maxHeartbeats 4000000 in
/-- where nothing is asked for anew -/
theorem ask_old (t : Nat) (x : Th) (m : Int) (g : Nat) (v : Value) (ls : List LK) (w : World) (hT : TB w g v ls) (hg : Gw w) (hA : x.a.size ≤ 9223372036854775807) (hB : x.b.size ≤ 9223372036854775807)
    (h : ((t == 0 || !mayM x m) = true ∨ ls.any (waitsP t) = true ∨ hasM t x m ls = true ∨ 16384 ≤ ls.length)) :
    Calls Tryd.prog 20 #[.pointer (some ⟨g, 0, none⟩), .int .u32 (t : Int), x.agg, .int .i64 m] w (AskO w g v (askM t x m ls)) := by
  obtain ⟨W, hW, hb, b1, b2⟩ := boxes2 w t x
  have HT := Lib.hid hT
  have HB := Lib.hid hb
  have H1 := Lib.hid b1
  have HE := Lib.hid (fun (W' : World) (h : RowKit.Below W.heap.size W W') => Chg.below hT (below_trans hb h))
  obtain ⟨A, c, rfl, hc, h0, hTR⟩ := hT.tr
  have HM := Lib.hid (may_any x m hA hB W)
  have HS := Lib.hid (fun (W' : World) (h : RowKit.Below W.heap.size W W') => some_any 43 (Or.inl rfl) #[.pointer (some ⟨w.heap.size, 0, none⟩)] (waitsP t) g A c ls W' (hTR.up (below_trans hb h)) (fun k l b hl e W2 h2 => askP_any t _ l b _ W2 (by
      obtain ⟨b2, e2, hc⟩ := hTR.row k l hl
      obtain rfl : b2 = b := by rw [e2] at e; injection e with e; injection e
      exact (hc.up (below_trans hb h)).up h2) ((H1.out.below (below_trans h h2) H1.out.lt).cell 0)))
  have HH := Lib.hid (fun (W' : World) (h : RowKit.Below W.heap.size W W') => has_any g A c ls W' (hTR.up (below_trans hb h)) (hg.below (below_trans hb h)) t x m hA hB)
  have HX := Lib.hid b2
  obtain ⟨c0, c1, c2, c3⟩ := blk36 b2
  have d0 := b1.cell 0
  have HTR := Lib.hid (hTR.up hb)
  simp only [List.getElem?_toArray, List.getElem?_cons_zero] at d0
  unfold askM
  generalize ls.any (waitsP t) = p at HS h ⊢
  generalize hasM t x m ls = q at HH h ⊢
  obtain ⟨z, hz⟩ : ∃ z, (t == 0) = z := ⟨_, rfl⟩
  have hz2 : ((t : Int) == 0) = z := by rw [← hz]; exact nbeq t 0
  obtain ⟨n, hn⟩ : ∃ n, n = ls.length := ⟨_, rfl⟩
  rw [← hn] at h ⊢
  have HN := Lib.hid hn
  obtain ⟨s, hs⟩ : ∃ s, decide (16384 ≤ n) = s := ⟨_, rfl⟩
  have hs2 : decide ((n : Int) ≥ 16384) = s := by rw [← hs, decide_eq_decide]; omega
  obtain ⟨xr, xi, xa, xb⟩ := x
  generalize mayM _ _ = my at HM h ⊢
  rw [hz] at h ⊢
  clear hz
  simp only [Th.agg, box36, tcs] at hW HM HH c0 c1 c2 c3 ⊢
  clear hb b1 b2 hT hg hA hB hTR h0 hc hn
  cases z <;> cases my <;> cases p <;> cases q <;> cases s <;> (try (exfalso; simp at h hs <;> omega)) <;> clear h
  all_goals
    first | rw [if_pos (by decide)] | rw [if_neg (by decide)]
    try first | rw [if_pos (by decide)] | rw [if_neg (by decide)]
    try first | rw [if_pos (by decide)] | rw [if_neg (by decide)]
    try rw [if_pos (of_decide_eq_true hs)]
    go_enter Tryd.func20, Tryd.ntmps20
    go_upto_region 1 with fail
    clear hW
    go_wp2_with (first
      | (go_at_call 41; with_reducible refine HM.out.mono ?_; rintro e w1 ⟨rfl, hb1⟩; have HB1 := Lib.hid hb1; obtain ⟨c0, c1, c2, c3⟩ := blk36 (HX.out.below hb1 HX.out.lt); have d0 := (H1.out.below hb1 H1.out.lt).cell 0; simp only [List.getElem?_toArray, List.getElem?_cons_zero] at d0; have HZ := Lib.hid HB1.out; clear hb1)
      | (go_at_call 42; with_reducible refine (HS.out _ HB1.out).mono ?_; rintro e w2 ⟨rfl, hb2⟩; have HB2 := Lib.hid (below_trans HB1.out hb2); obtain ⟨c0, c1, c2, c3⟩ := blk36 (HX.out.below HB2.out HX.out.lt); have d0 := (H1.out.below HB2.out H1.out.lt).cell 0; simp only [List.getElem?_toArray, List.getElem?_cons_zero] at d0; have HZ := Lib.hid HB2.out; clear hb2)
      | (go_at_call 21; with_reducible refine (HH.out _ HB2.out).mono ?_; rintro e w3 ⟨rfl, hb3⟩; have HB3 := Lib.hid (below_trans HB2.out hb3); have t0 := (HTR.out.up HB3.out).blk.cell 0; simp only [List.getElem?_toArray, List.getElem?_cons_zero] at t0; rw [← HN.out] at t0; have HZ := Lib.hid HB3.out; clear hb3))
    go_ret2
    first
    | exact ⟨rfl, _, by have := HE.out _ HZ.out; rwa [← HN.out] at this⟩
    | exact ⟨rfl, _, by have := HE.out _ (Below.refl _ _); rwa [← HN.out] at this⟩
end Go.Proofs.YtlblgfpafdfilaaDoor
