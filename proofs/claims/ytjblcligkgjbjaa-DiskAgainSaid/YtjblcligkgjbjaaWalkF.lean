/-
  THE WALK OF Write.
-/
import Derived.Test.YtjblcligkgjbjaaWalkE
import Derived.Laws.CopyOwn
namespace Go.Proofs.Ytjblcligkgjbjaa
open Go.RowKit Go.Sort Go.Maps

set_option maxRecDepth 100000 in
theorem z72_size : z72.size = 513 := by simp [z72, z69]
set_option maxRecDepth 100000 in
theorem zero72' (w : World) : (zeroValue 72).run Try.prog w = .ok (.agg z72) w := zero72 w
/-- a write's cells, of noughts yet -/
def at72 (a : Nat) : Array Value := #[.int .i64 (a : Int)] ++ z69
set_option maxRecDepth 100000 in
theorem at72_size (a : Nat) : (at72 a).size = 513 := by simp [at72, z69]
set_option maxRecDepth 100000 in
theorem at72_one (a : Nat) : (at72 a).all (·.oneCell') = true := by
  rw [Array.all_eq_true_iff_forall_mem]
  intro u h
  simp only [at72, z69, Array.mem_append, Array.mem_replicate, List.mem_toArray, List.mem_singleton] at h
  rcases h with h | ⟨_, h⟩ <;> rw [h] <;> rfl
set_option maxRecDepth 100000 in
theorem run_build72 (a : Nat) (w : World) : (Instr.build 72 #[(0, .int .i64 (a : Int))]).run Try.prog w = .ok (.agg (at72 a)) w := by
  refine run_build w 72 _ _ ?_
  kernel_rfl
set_option maxRecDepth 100000 in
theorem wp_build72 {o : Oper} {a : Act} {w : World} {K : Act → World → Prop} {Q : Exit → Act → World → Prop} (x : Operand) (ho : o.op = .build 72 #[(0, x)]) (k : Nat) (hx : a.eval x = .int .i64 (k : Int))
    (h : K (a.put o.dst (.agg (at72 k))) w) : o.wp Try.prog a w K Q := by
  unfold Oper.wp execOp
  simp [ho, hx, run_build72, Result.andThen]
  exact h
set_option maxRecDepth 100000 in
theorem wpList_build72 {ops : Array Oper} {rest : List Oper} {o : Oper} {a : Act} {w : World} {Q : Exit → Act → World → Prop} (hgd : o.guard = none) (x : Operand) (ho : o.op = .build 72 #[(0, x)]) (k : Nat) (hx : a.eval x = .int .i64 (k : Int))
    (h : wpList Try.prog ops Q rest (a.put o.dst (.agg (at72 k))) w) : wpList Try.prog ops Q (o :: rest) a w :=
  wpList_plain hgd fun _ hK => wp_build72 x ho k hx (hK _ _ h)

set_option maxRecDepth 100000 in
theorem fill_one (C z : Array Value) (hz : z.size = C.size) : Instr.fill (fun i => some (i * C.size, C.size)) z [(0, .agg C)] = some C := by
  have hf : (Value.cells (.agg C)) = C := rfl
  simp only [Instr.fill, hf, Nat.zero_mul, Nat.zero_add]
  rw [if_neg (by simp; omega)]
  congr 1
  have key : ∀ (l : List Value) (n : Nat) (cs : Array Value), n + l.length ≤ cs.size → (l.zipIdx n).foldl (fun cs x => cs.setIfInBounds x.2 x.1) cs = (cs.toList.take n ++ l ++ cs.toList.drop (n + l.length)).toArray := by
    intro l
    induction l with
    | nil => intro n cs _; simp
    | cons v r ih =>
      intro n cs h
      simp only [List.zipIdx_cons, List.foldl_cons, List.length_cons] at h ⊢
      rw [ih (n + 1) _ (by simp; omega)]
      congr 1
      have := list_seg_step cs.toList n v r (by simp; omega)
      simpa [Array.toList_setIfInBounds, Nat.add_assoc] using this
  have := key C.toList 0 z (by simp; omega)
  rw [← Array.foldl_toList, Array.toList_zipIdx]
  simp only [Nat.zero_add] at this ⊢
  refine this.trans ?_
  have hd : z.toList.drop C.toList.length = [] := List.drop_eq_nil_of_le (by simp; omega)
  rw [hd]
  simp
set_option maxRecDepth 100000 in
theorem size72' : (Try.prog.info? 72).map (·.bytes) = some 520 := by
  obtain ⟨i0, hi, hz0, hz1, hz2⟩ := info_parts info72
  simp [hi, hz2]
set_option maxRecDepth 100000 in
theorem run_bs72 (C : Array Value) (hC : C.size = 513) (w : World) : (Instr.buildSlice 62 1 #[(0, .agg C)]).run Try.prog w = .ok (.slice (some ⟨w.heap.size, 0, none⟩) 1 1) (w.alloc (.cells C 72)) := by
  obtain ⟨i0, hi, hz0, hz1, hz2⟩ := info_parts info72
  refine run_buildSlice w 62 72 1 _ C i0 _ Try.underlying62 hi hz0 (by rw [hz1]; decide) (by rw [hz1]; decide) ?_
  rw [hz1, ← hC]
  exact fill_one C _ (by simp)
set_option maxRecDepth 100000 in
/-- one write more -/
theorem run_app72 (ty : TypeId) {w : World} {S : Nat → Prop} {v : Value} {c : List (Nat × List Nat)} (h : CR w S v c) (a : Nat) (b : List Nat) (hb : Sec b) (G : Nat) (hg : Blk w G 72 (.int .i64 (a : Int) :: u8s b).toArray) (hlen : c.length < 1000000) :
    ∃ v' w', (Builtin.append_ #[62, 62] ty #[v, .slice (some ⟨G, 0, none⟩) 1 1]).run Try.prog w = .ok v' w' ∧ CR w' (Up S w) v' (c ++ [(a, b)]) ∧ w.grownBy w' v.ownBlock := by
  obtain ⟨i0, hi, hz0, hz1, hz2⟩ := info_parts info72
  have hl : (Value.int .i64 (a : Int) :: u8s b).length = 1 * 513 := by simp [u8s_length, hb.1]
  obtain ⟨v', w', h1, h2, h3, _, h5⟩ := run_append_own_at (P := Try.prog) w 0 62 ty 72 i0 _ 513 520 Try.underlying62 hi hz0 hz1 hz2 (by simp [Value.cells]) (by decide) v c.length (wcs c) h.1 ⟨G, 0, none⟩ 1 1 (Value.int .i64 (a : Int) :: u8s b)
    hl (fun j u hj => by rw [add_head, hg.cell]; simpa using hj) (by intro u hu; rcases List.mem_cons.1 hu with rfl | hu; rfl; exact u8s_one b u hu) (by simp only [maxLen]; omega) (by omega) (Nat.zero_le _)
  refine ⟨v', w', h1, ⟨?_, fun k hk => ?_⟩, h3⟩
  · rw [wcs_append, List.length_append]
    simpa [wcs] using h2
  · rcases h5 with h5 | h5
    · exact Or.inl (h.2 k (by rw [← h5]; exact hk))
    · rw [h5] at hk
      injection hk with hk
      exact Or.inr (by omega)
set_option maxRecDepth 100000 in
theorem heap_setB (w : World) (M : Nat) (o : Obj) (x : Nat) (h : x ≠ M) : (setB w M o).heap[x]? = w.heap[x]? := by simp [setB, Array.getElem?_setIfInBounds_ne (Ne.symm h)]
set_option maxRecDepth 100000 in
/-- the map has the new place, the cache the new write -/
theorem pushed {W : World} {S : Nat → Prop} {g : Nat} {d : DS} {L M : Nat} {v : Value} {c0 : Int} (h : DB W S g d L M v c0) (a : Nat) (b : List Nat) (ha : a < d.kept.length) (hb : Sec b) (hlen : d.cache.length < 1000000) :
    ∃ W3 : World, (Instr.mapUpdate 63 (.map (some M)) (.int .i64 (a : Int)) (.int .i64 (d.cache.length : Int))).run Try.prog W.drew = .ok () W3 ∧ W3.heap.size = W.heap.size ∧ Blk W3 g 65 (dcs d L M v c0) ∧
      (∀ k C, Blk W k 72 C → Blk W3 k 72 C) ∧
      ∀ ty, ∃ v' w4, (Builtin.append_ #[62, 62] ty #[v, .slice (some ⟨W.heap.size, 0, none⟩) 1 1]).run Try.prog (W3.drew.alloc (.cells (Value.int .i64 (a : Int) :: u8s b).toArray 72)) = .ok v' w4 ∧
        Blk w4 g 65 (dcs d L M v c0) ∧ DB (w4.setCell ⟨g, 1, none⟩ v') (Up S W) g { d with cache := d.cache ++ [(a, b)] } L M v' c0 ∧ Fr W (w4.setCell ⟨g, 1, none⟩ v') S := by
  have hfew := h.ok.few
  have hmd : IM W.drew M (fun y => placeN d.cache y d.cache.length) d.cache.length := h.m.stays rfl
  obtain ⟨o, hrun, him⟩ := hmd.put (a := a) (p := d.cache.length) (by omega) (fun y => placeN (d.cache ++ [(a, b)]) y (d.cache.length + 1)) (fun y => place_push _ _ _ _)
  have hb3 : Blk (setB W.drew M o) g 65 (dcs d L M v c0) := (heap_setB _ _ _ _ (h.m.ne_blk h.b)).trans h.b
  have hs3 : (setB W.drew M o).heap.size = W.heap.size := by simp [setB]
  have hf3 : Fr W (setB W.drew M o) S := (Fr.refl W S).drew.setB_ (Or.inl h.sm) o
  refine ⟨setB W.drew M o, hrun, hs3, hb3, fun k C hk => (heap_setB _ _ _ _ (h.m.ne_blk hk)).trans hk, fun ty => ?_⟩
  have hf5 : Fr W ((setB W.drew M o).drew.alloc (.cells (Value.int .i64 (a : Int) :: u8s b).toArray 72)) S := hf3.drew.alloc _
  have hsz5 : (setB W.drew M o).drew.heap.size = W.heap.size := hs3
  have hnew := Blk.new (setB W.drew M o).drew 72 (Value.int .i64 (a : Int) :: u8s b).toArray
  rw [hsz5] at hnew
  have hr5 : CR ((setB W.drew M o).drew.alloc (.cells (Value.int .i64 (a : Int) :: u8s b).toArray 72)) S v d.cache := h.r.stays fun x hx => by
    have hlt := (h.r.1.lt x hx).2
    refine (Below.heap_alloc _ _ x (by rw [hsz5]; exact hlt)).trans ?_
    refine (heap_setB _ _ _ _ fun e => ?_)
    rcases h.r.look with ⟨rfl, _⟩ | ⟨g', cap, cur, rfl, _, hb', _⟩
    · simp [Value.ownBlock] at hx
    · simp [Value.ownBlock] at hx
      subst hx
      exact h.m.ne_blk hb' e
  obtain ⟨v', w4, hap, hcr, hgr⟩ := run_app72 ty hr5 a b hb W.heap.size hnew hlen
  have hgne : some g ≠ v.ownBlock := h.b.own_ne h.r.1 (by decide)
  have hlne : some L ≠ v.ownBlock := h.l.own_ne h.r.1 (by decide)
  have hb5 : Blk ((setB W.drew M o).drew.alloc (.cells (Value.int .i64 (a : Int) :: u8s b).toArray 72)) g 65 (dcs d L M v c0) := hb3.drew.alloc _
  have hb4 : Blk w4 g 65 (dcs d L M v c0) := hb5.grown hgr hgne
  have hl4 : Blk w4 L 69 (secs d.kept).toArray := (Blk.alloc (o := .cells (Value.int .i64 (a : Int) :: u8s b).toArray 72) (show Blk (setB W.drew M o).drew L 69 (secs d.kept).toArray from (heap_setB _ _ _ _ (h.m.ne_blk h.l)).trans h.l)).grown hgr hlne
  have hmlt : M < (setB W.drew M o).drew.heap.size := by rw [hsz5]; exact h.m.lt
  have hmne : some M ≠ v.ownBlock := fun e => by
    rcases h.r.look with ⟨rfl, _⟩ | ⟨g', cap, cur, rfl, _, hb', _⟩
    · simp [Value.ownBlock] at e
    · simp [Value.ownBlock] at e
      exact h.m.ne_blk hb' e.symm
  have hm4 : IM w4 M (fun y => placeN (d.cache ++ [(a, b)]) y (d.cache.length + 1)) (d.cache.length + 1) := by
    refine (him.stays (w' := w4) ?_)
    refine (hgr.block M (by simpa using Nat.lt_succ_of_lt hmlt) hmne).trans ?_
    exact (Below.heap_alloc _ _ M hmlt)
  refine ⟨v', w4, hap, hb4, ?_, (hf5.grown hgr fun k hk => Or.inl (h.r.2 k hk)).setCell (Or.inl h.sg) _⟩
  have hup : ∀ x, Up S ((setB W.drew M o).drew.alloc (.cells (Value.int .i64 (a : Int) :: u8s b).toArray 72)) x → Up S W x := fun x hx => hx.imp id fun hx => by
    simp only [World.size_alloc, hsz5] at hx
    omega
  have hh : ∀ x, x ≠ g → (w4.setCell ⟨g, 1, none⟩ v').heap[x]? = w4.heap[x]? := fun x hx => Below.heap_setCell w4 _ v' x hx
  refine ⟨Or.inl h.sg, Or.inl h.sl, Or.inl h.sm, ⟨h.ok.pos, h.ok.few, h.ok.sec, ?_, h.ok.tr1, h.ok.tr2, h.ok.drk⟩, ?_, ?_, ?_, ?_, h.t⟩
  · intro e he
    rcases List.mem_append.1 he with he | he
    · exact h.ok.cac e he
    · rw [List.mem_singleton] at he; subst he; exact ⟨ha, hb⟩
  · have := hb4.set_ 1 v'
    simpa [dcs] using this
  · exact (hh L (hl4.ne_ hb4 (by decide))).trans hl4
  · refine CR.stays (hcr.mono fun x _ hx => hup x hx) fun x hx => hh x fun e => ?_
    subst e
    exact hb4.own_ne hcr.1 (by decide) hx.symm
  · have e1 : (d.cache ++ [(a, b)]).length = d.cache.length + 1 := by simp
    show IM _ M (fun y => placeN (d.cache ++ [(a, b)]) y (d.cache ++ [(a, b)]).length) (d.cache ++ [(a, b)]).length
    rw [e1]
    exact hm4.stays (hh M fun e => hm4.ne_blk hb4 e.symm)
set_option maxRecDepth 100000 in
theorem wp_bs72 {o : Oper} {a : Act} {w : World} {K : Act → World → Prop} {Q : Exit → Act → World → Prop} (x : Operand) (ho : o.op = .buildSlice 62 1 #[(0, x)]) (C : Array Value) (hC : C.size = 513) (hx : a.eval x = .agg C)
    (h : K (a.put o.dst (.slice (some ⟨w.heap.size, 0, none⟩) 1 1)) (w.alloc (.cells C 72))) : o.wp Try.prog a w K Q := by
  unfold Oper.wp execOp
  simp [ho, hx, run_bs72 C hC, Result.andThen]
  exact h
set_option maxRecDepth 100000 in
theorem wp_app72 {o : Oper} {a : Act} {w : World} {K : Act → World → Prop} {Q : Exit → Act → World → Prop} (s x : Operand) (ho : o.op = .call { callee := .builtin .append, args := #[s, x], argTypes := #[62, 62] })
    (v y : Value) (hs : a.eval s = v) (hx : a.eval x = y) (v' : Value) (w' : World) (hrun : (Builtin.append_ #[62, 62] o.type #[v, y]).run Try.prog w = .ok v' w') (h : K (a.put o.dst v') w') : o.wp Try.prog a w K Q := by
  unfold Oper.wp execOp
  simp only [ho, resolve, invoke, builtin, Sem.run_bind, Sem.run_pure, Result.andThen_ok, List.map_toArray, List.map_cons, List.map_nil, hs, hx, hrun]
  exact h
end Go.Proofs.Ytjblcligkgjbjaa
