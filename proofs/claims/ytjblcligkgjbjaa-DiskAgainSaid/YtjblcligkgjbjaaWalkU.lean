/-
  THE DOCUMENT'S DISK: THE WALK OF Write.
-/
import Derived.Test.YtjblcligkgjbjaaWalkT
namespace Go.Proofs.Ytjblcligkgjbjaa
open Go.RowKit Go.Sort Go.Maps

set_option maxRecDepth 100000 in
theorem info76 : (Try.prog.info? 76).map (fun i => (i.zero, i.size, i.bytes)) = some (some (.agg #[.int .i64 0, .slice none 0 0]), 2, 32) := by kernel_rfl
set_option maxRecDepth 100000 in
theorem cels_append : ∀ (c : List (Nat × List Nat)) (ss : List Value) (a : Nat) (l : List Nat) (x : Value), ss.length = c.length → cels (c ++ [(a, l)]) (ss ++ [x]) = cels c ss ++ [.int .i64 (a : Int), x] := by
  intro c ss a l x h
  unfold cels
  rw [List.zip_append h.symm, List.flatMap_append]
  simp
set_option maxRecDepth 100000 in
theorem run_bs76 (a : Int) (A : Option Addr) (n c : Nat) (w : World) : (Instr.buildSlice 38 1 #[(0, .agg #[.int .i64 a, .slice A n c])]).run Try.prog w = .ok (.slice (some ⟨w.heap.size, 0, none⟩) 1 1) (w.alloc (.cells #[.int .i64 a, .slice A n c] 76)) := by
  obtain ⟨i0, hi, hz0, hz1, hz2⟩ := info_parts info76
  refine run_buildSlice w 38 76 1 _ #[.int .i64 a, .slice A n c] i0 _ Try.underlying38 hi hz0 (by rw [hz1]; decide) (by rw [hz1]; decide) ?_
  rw [hz1]
  exact fill_one #[.int .i64 a, .slice A n c] _ (by simp)
set_option maxRecDepth 100000 in
/-- one write more -/
theorem run_app76 (ty : TypeId) {w : World} {O T : Nat → Prop} {v : Value} {c : List (Nat × List Nat)} (h : CW w O T v c) (a : Nat) (x : Value) (l : List Nat) (hx : SL w T x l) (h1 : x.oneCell' = true) (G : Nat) (hg : Blk w G 76 #[.int .i64 (a : Int), x]) (hlen : c.length < 1000000)
    (hOT : ∀ b, T b → ¬ O b) :
    ∃ v' w', (Builtin.append_ #[38, 38] ty #[v, .slice (some ⟨G, 0, none⟩) 1 1]).run Try.prog w = .ok v' w' ∧ CW w' (Up O w) T v' (c ++ [(a, l)]) ∧ w.grownBy w' v.ownBlock ∧ (v'.ownBlock = v.ownBlock ∨ v'.ownBlock = some w.heap.size) ∧ ∃ A n' c', v' = .slice A n' c' := by
  obtain ⟨i0, hi, hz0, hz1, hz2⟩ := info_parts info76
  obtain ⟨ss, h0, ho, hO, hsl⟩ := h
  obtain ⟨v', w', r1, r2, r3, _, r5⟩ := run_append_own_at (P := Try.prog) w 0 38 ty 76 i0 _ 2 32 Try.underlying38 hi hz0 hz1 hz2 (by simp [Value.cells]) (by decide) v c.length (cels c ss) ho ⟨G, 0, none⟩ 1 1 [.int .i64 (a : Int), x]
    rfl (fun j u hj => by
      rw [add_head, hg.cell]
      simpa using hj) (by intro u hu; rcases List.mem_cons.1 hu with rfl | hu; rfl; rw [List.mem_singleton] at hu; subst hu; exact h1) (by simp only [maxLen]; omega) (by omega) (Nat.zero_le _)
  have hT : ∀ x l, SL w T x l → SL w' T x l := by
    intro x l ⟨A, c, e, hr⟩
    refine ⟨A, c, e, hr.move r3.size fun p hp hS => World.cell?_of_block (r3.block _ hp fun e => ?_)⟩
    exact hOT _ hS (hO _ e.symm)
  have hsh : ∃ A n' c', v' = .slice A n' c' := by
    rcases r2.2 with ⟨e, e0⟩ | ⟨g, cap, cur, e, _⟩
    · omega
    · exact ⟨_, _, _, e⟩
  refine ⟨v', w', r1, ⟨ss ++ [x], by simp [h0], ?_, fun k hk => ?_, fun i b m hi => ?_⟩, r3, r5, hsh⟩
  · rw [cels_append _ _ _ _ _ h0, List.length_append]; exact r2
  · rcases r5 with r5 | r5
    · exact Or.inl (hO k (by rw [← r5]; exact hk))
    · rw [r5] at hk
      injection hk with hk
      exact Or.inr (by omega)
  · rcases Nat.lt_or_ge i c.length with hlt | hge
    · rw [List.getElem?_append_left hlt] at hi
      obtain ⟨x', e, hs⟩ := hsl i b m hi
      exact ⟨x', by rw [List.getElem?_append_left (by omega)]; exact e, hT _ _ hs⟩
    · rw [List.getElem?_append_right hge] at hi
      have h0' : i - c.length = 0 := by
        rcases Nat.eq_zero_or_pos (i - c.length) with h0 | h0
        · exact h0
        · rw [List.getElem?_eq_none (by simp; omega)] at hi; cases hi
      rw [h0'] at hi
      simp at hi
      obtain ⟨rfl, rfl⟩ := hi
      exact ⟨x, by rw [List.getElem?_append_right (by omega), h0, h0']; rfl, hT _ _ hx⟩
set_option maxRecDepth 100000 in
/-- all that a write comes to -/
theorem RD.pushed {w x : World} {S T : Nat → Prop} {g : Nat} {d : DS} {vk vc : Value} (h : RD w S T g d vk vc) (hf : Fr w x No) (a : Nat) (ha : a < d.kept.length) {A : Option Addr} {l : List Nat} (cx : Nat) (hr : RB x (fun q => w.heap.size ≤ q) A 512 l) (hsec : Sec l) (hlen : d.cache.length < 1000000) (ty : TypeId) :
    ∃ v' w4, (Builtin.append_ #[38, 38] ty #[vc, .slice (some ⟨x.heap.size, 0, none⟩) 1 1]).run Try.prog (x.alloc (.cells #[.int .i64 (a : Int), .slice A 512 cx] 76)) = .ok v' w4 ∧ (∃ A' n' c', v' = .slice A' n' c') ∧ Blk w4 g 42 (rcs d vk vc) ∧
      (∃ S' T', RD (w4.setCell ⟨g, 1, none⟩ v') S' T' g { d with cache := d.cache ++ [(a, l)] } vk v' ∧ (∀ q, S' q → S q ∨ w.heap.size ≤ q) ∧ (∀ q, T' q → T q ∨ w.heap.size ≤ q)) ∧ Fr w (w4.setCell ⟨g, 1, none⟩ v') S := by
  have h1 := h.keep hf (fun _ _ hn => hn) fun _ _ hn => hn
  obtain ⟨x2, hx2⟩ : ∃ x2, x2 = x.alloc (.cells #[.int .i64 (a : Int), .slice A 512 cx] 76) := ⟨_, rfl⟩
  have hfx : Fr x x2 No := by rw [hx2]; exact (Fr.refl _ _).alloc _
  obtain ⟨U, hU⟩ : ∃ U : Nat → Prop, U = fun q => T q ∨ (w.heap.size ≤ q ∧ q < x.heap.size) := ⟨_, rfl⟩
  have hUS : ∀ q, U q → ¬ S q := by
    intro q hq hS
    rw [hU] at hq
    rcases hq with hq | hq
    · exact h.st q hq hS
    · have := h.sl q hS; omega
  have hUl : ∀ q, U q → q < x2.heap.size := by
    intro q hq
    rw [hU] at hq
    have := hfx.size
    rcases hq with hq | hq
    · have := h1.tl q hq; omega
    · omega
  have h2 := h1.keep hfx (fun _ _ hn => hn) fun _ _ hn => hn
  have hk2 : Row x2 S U vk d.kept := h2.k.mono (fun _ _ h => h) fun q _ hq => by rw [hU]; exact Or.inl hq
  have hc2 : CW x2 S U vc d.cache := h2.c.mono (fun _ _ h => h) fun q _ hq => by rw [hU]; exact Or.inl hq
  have hsl : SL x2 U (.slice A 512 cx) l := by
    have : SL x U (.slice A 512 cx) l := ⟨A, cx, by rw [hsec.1], by rw [hsec.1]; exact hr.mono fun q hq hS => by rw [hU]; exact Or.inr ⟨hS, hq⟩⟩
    exact this.keep hfx fun _ _ hn => hn
  have hG : Blk x2 x.heap.size 76 #[.int .i64 (a : Int), .slice A 512 cx] := by rw [hx2]; exact Blk.new x 76 _
  obtain ⟨v', w4, hrun, hrow, hgr, hat, hsh⟩ := run_app76 ty hc2 a (.slice A 512 cx) l hsl rfl x.heap.size hG hlen hUS
  rw [← hx2]
  have hob : ∀ q, vc.ownBlock = some q → S q := fun q hq => h2.c.o hq
  have hb4 : Blk w4 g 42 (rcs d vk vc) := h2.b.grown hgr fun e => h2.c.own_ne h2.b (by decide) e.symm
  have hT4 : ∀ y m, SL x2 U y m → SL w4 U y m := by
    intro y m ⟨A, c, e, hr⟩
    exact ⟨A, c, e, hr.move hgr.size fun p hp hS => World.cell?_of_block (hgr.block _ hp fun e => hUS _ hS (hob _ e.symm))⟩
  have hk4 : Row w4 S U vk d.kept := hk2.stays (fun q hq => hgr.block q (hk2.lt hq) fun e => by
    obtain ⟨xs, k1, _⟩ := hk2
    obtain ⟨ss, _, c1, _⟩ := hc2
    rcases k1.2 with ⟨e1, _⟩ | ⟨g1, cap1, cur1, e1, _, b1, _⟩
    · rw [e1] at hq; simp [Value.ownBlock] at hq
    · rcases c1.2 with ⟨e2, _⟩ | ⟨g2, cap2, cur2, e2, _, b2, _⟩
      · rw [e2] at e; simp [Value.ownBlock] at e
      · rw [e1] at hq; rw [e2] at e
        have q1 : g1 = q := by simpa [Value.ownBlock] using hq
        have q2 : q = g2 := by simpa [Value.ownBlock] using e
        exact Blk.ne_ (t := 33) (t' := 76) b1 b2 (by decide) (q1.trans q2)) hT4
  have hst : ∀ q, U q → ¬ (Up S x2 q ∧ q < w4.heap.size) := fun q hq hn => by
    rcases hn.1 with hn | hn
    · exact hUS q hq hn
    · have := hUl q hq; omega
  have hset : ∀ q, q ≠ g → (w4.setCell ⟨g, 1, none⟩ v').heap[q]? = w4.heap[q]? := fun q hq => Below.heap_setCell w4 _ v' q hq
  have hT5 : ∀ y m, SL w4 U y m → SL (w4.setCell ⟨g, 1, none⟩ v') U y m := fun y m hs => hs.keep (U := fun q => q = g) (Fr.setCell (S := fun q => q = g) (Fr.refl w4 _) (p := ⟨g, 1, none⟩) (Or.inl rfl) _) fun q hq e => hUS q hq (e ▸ h.sg)
  have hsz : x.heap.size + 1 = x2.heap.size := by rw [hx2]; simp
  have hwx := hf.size
  refine ⟨v', w4, hrun, hsh, hb4, ⟨fun q => Up S x2 q ∧ q < w4.heap.size, U, ⟨⟨Or.inl h.sg, hb4.lt⟩, ?_, ?_, ?_, ?_, hst, ?_, ?_⟩, ?_, ?_⟩, ?_⟩
  · exact ⟨h.ok.pos, h.ok.few, h.ok.sec, fun c hc => by
      rcases List.mem_append.1 hc with hc | hc
      · exact h.ok.cac c hc
      · rw [List.mem_singleton] at hc; subst hc; exact ⟨ha, hsec⟩, h.ok.tr1, h.ok.tr2, h.ok.drk⟩
  · have := hb4.set_ 1 v'
    simpa [rcs] using this
  · exact (hk4.stays (fun q hq => hset q fun e => hk4.own_ne hb4 (by decide) (e ▸ hq)) hT5).mono (fun q hq hS => ⟨Or.inl hS, by simpa using hq⟩) fun _ _ h => h
  · exact (hrow.stays (fun q hq => hset q fun e => hrow.own_ne hb4 (by decide) (e ▸ hq)) hT5).mono (fun q hq hS => ⟨hS, by simpa using hq⟩) fun _ _ h => h
  · intro q hq; have := hUl q hq; have := hgr.size; simp; omega
  · intro q hq; simpa using hq.2
  · intro q hq; exact hq.1.imp id fun hq => by omega
  · intro q hq; rw [hU] at hq; exact hq.imp id fun hq => hq.1
  · exact ((((hf.same hfx).mono fun _ _ hn => hn.elim).grown hgr fun q hq => Or.inl (hob q hq))).setCell (Or.inl h.sg) _
end Go.Proofs.Ytjblcligkgjbjaa
