/-
  WHAT WAS SYNCED AND WHAT WAS WRITTEN SINCE: the mathematics; the disk and the law's own memory side by side.
-/
import Derived.Test.YtjblcligkgjbjaaWalkP
namespace Go.Proofs.Ytjblcligkgjbjaa
open Go.RowKit Go.Sort Go.Maps

/-- what was written to a sector since the last sync -/
def since (c : List (Nat × List Nat)) (k : Nat) : List (List Nat) := (c.filter fun x => x.1 == k).map (·.2)
def sinces (c : List (Nat × List Nat)) : List (List (List Nat)) := (List.range 4).map (since c)
set_option maxRecDepth 100000 in
theorem sinces_at (c : List (Nat × List Nat)) {k : Nat} (h : k < 4) : (sinces c).getD k [] = since c k := by
  simp [sinces, h]
set_option maxRecDepth 100000 in
theorem sinces_len (c : List (Nat × List Nat)) : (sinces c).length = 4 := by simp [sinces]
set_option maxRecDepth 100000 in
theorem since_push (c : List (Nat × List Nat)) (a : Nat) (b : List Nat) (k : Nat) : since (c ++ [(a, b)]) k = if a = k then since c k ++ [b] else since c k := by
  unfold since
  rw [List.filter_append]
  by_cases h : a = k
  · subst h; simp
  · simp [h]
set_option maxRecDepth 100000 in
theorem sinces_push (c : List (Nat × List Nat)) {a : Nat} (b : List Nat) (ha : a < 4) : sinces (c ++ [(a, b)]) = (sinces c).set a ((sinces c).getD a [] ++ [b]) := by
  apply List.ext_getElem?
  intro j
  rw [sinces_at c ha, List.getElem?_set, sinces_len]
  simp only [sinces, List.getElem?_map]
  by_cases hj : j < 4
  · by_cases hij : a = j
    · subst hij; simp [hj, since_push]
    · simp [hj, hij, since_push]
  · have : ¬ a = j := by omega
    simp [this, List.getElem?_eq_none (l := List.range 4) (show (List.range 4).length ≤ j by simp; omega)]
set_option maxRecDepth 100000 in
theorem since_len (c : List (Nat × List Nat)) (k : Nat) : (since c k).length ≤ c.length := by
  unfold since
  rw [List.length_map]
  exact List.length_filter_le _ _
set_option maxRecDepth 100000 in
/-- the last one is what is seen -/
theorem seenN_take (c : List (Nat × List Nat)) (k : Nat) (z : List Nat) : ∀ n, n ≤ c.length → seenN c k z n = (since (c.take n) k).getLastD z
  | 0, _ => by simp [seenN, since]
  | n + 1, h => by
    have e : c.take (n + 1) = c.take n ++ [c.getD n (0, [])] := by
      rw [List.take_succ_eq_append_getElem (by omega)]
      simp [show n < c.length by omega]
    rw [seenN, e]
    generalize c.getD n (0, []) = q
    obtain ⟨q1, q2⟩ := q
    rw [since_push]
    by_cases hq : q1 = k
    · simp [hq]
    · rw [if_neg hq, if_neg hq]
      exact seenN_take c k z n (by omega)
set_option maxRecDepth 100000 in
theorem seen_last (d : DS) (k : Nat) : d.seen k = (since d.cache k).getLastD (d.kept.getD k []) := by
  unfold DS.seen
  rw [seenN_take _ _ _ _ (Nat.le_refl _), List.take_length]
set_option maxRecDepth 100000 in
theorem setN_at (k : List (List Nat)) (c : List (Nat × List Nat)) {a : Nat} (ha : a < k.length) (hc : ∀ x ∈ c, x.1 < k.length) : ∀ n, n ≤ c.length → (setN k c n).getD a [] = seenN c a (k.getD a []) n
  | 0, _ => rfl
  | n + 1, h => by
    have hm := hc _ (getD_mem (z := ((0 : Nat), ([] : List Nat))) (show n < c.length by omega))
    rw [setN, seenN, getD_set _ _ _ _ _ (by rw [setN_len]; exact hm), setN_at k c ha hc n (by omega)]
set_option maxRecDepth 100000 in
theorem sync_at {d : DS} (h : d.Ok) {a : Nat} (ha : a < d.kept.length) : d.sync.kept.getD a [] = d.seen a :=
  setN_at _ _ ha (fun x hx => (h.cac x hx).1) _ (Nat.le_refl _)
set_option maxRecDepth 100000 in
theorem cutN_all (k : List (List Nat)) (c : List (Nat × List Nat)) (keep : List Bool) : ∀ n, (∀ i, i < n → keep.getD i false = true) → cutN k c keep n = setN k c n
  | 0, _ => rfl
  | n + 1, h => by rw [cutN, setN, if_pos (h n (by omega)), cutN_all k c keep n fun i hi => h i (by omega)]
set_option maxRecDepth 100000 in
theorem since_mem {c : List (Nat × List Nat)} {x : Nat × List Nat} {k : Nat} (hx : x ∈ c) (h : x.1 = k) : x.2 ∈ since c k := by
  unfold since
  exact List.mem_map.2 ⟨x, List.mem_filter.2 ⟨hx, by simpa using h⟩, rfl⟩
set_option maxRecDepth 100000 in
theorem cutN_in (k : List (List Nat)) (c : List (Nat × List Nat)) (keep : List Bool) {a : Nat} (ha : a < k.length) (hc : ∀ x ∈ c, x.1 < k.length) : ∀ n, n ≤ c.length → (cutN k c keep n).getD a [] = k.getD a [] ∨ (cutN k c keep n).getD a [] ∈ since c a
  | 0, _ => Or.inl rfl
  | n + 1, h => by
    have hmem := getD_mem (z := ((0 : Nat), ([] : List Nat))) (show n < c.length by omega)
    have hm := hc _ hmem
    unfold cutN
    split
    · rw [getD_set _ _ _ _ _ (by rw [cutN_len]; exact hm)]
      split
      · rename_i e; exact Or.inr (since_mem hmem e)
      · exact cutN_in k c keep ha hc n (by omega)
    · exact cutN_in k c keep ha hc n (by omega)

/-- the disk and the law's own memory, side by side -/
structure KG (w0 w : World) (i g y z : Nat) (S O T : Nat → Prop) (ys zs : List Value) (a : List (List Nat)) (b : List (List (List Nat))) (d : DS) : Prop where
  da : DAt w S g d
  p : KP w O T y z ys zs a b
  so : ∀ x, S x → ¬ O x ∧ ¬ T x
  s0 : ∀ x, S x → w0.heap.size ≤ x ∧ x < w.heap.size
  o0 : ∀ x, O x → w0.heap.size ≤ x
  t0 : ∀ x, T x → w0.heap.size ≤ x
  bl : Below w0.heap.size w0 w
  f : d.dark = false ∧ d.trip = -1
  k : d.kept.length = 4
  l : d.cache.length ≤ i
section
variable {w0 w w' : World} {i g y z : Nat} {S O T O' T' : Nat → Prop} {ys zs ys' zs' : List Value} {a a' : List (List Nat)} {b b' : List (List (List Nat))} {d d' : DS}
set_option maxRecDepth 100000 in
theorem KG.disk (h : KG w0 w i g y z S O T ys zs a b d) (hd : DAt w' (Up S w) g d') (hf : Fr w w' S) (f : d'.dark = false ∧ d'.trip = -1) (k : d'.kept.length = 4) {i' : Nat} (l : d'.cache.length ≤ i') :
    KG w0 w' i' g y z (Upo S w w') O T ys zs a b d' :=
  ⟨hd.tight, h.p.keep hf (fun x hO hS => (h.so x hS).1 hO) (fun x hT hS => (h.so x hS).2 hT),
    fun x hx => hx.1.elim (fun hS => h.so x hS) (fun hge => ⟨fun hO => by have := h.p.ol x hO; omega, fun hT => by have := h.p.tl x hT; omega⟩),
    fun x hx => ⟨hx.1.elim (fun hS => (h.s0 x hS).1) (fun hge => Nat.le_trans h.bl.size hge), hx.2⟩, h.o0, h.t0, h.bl.trans (hf.below (fun x hx => (h.s0 x hx).1) h.bl.size), f, k, l⟩
set_option maxRecDepth 100000 in
theorem KG.law (h : KG w0 w i g y z S O T ys zs a b d) (hf : Fr w w' O) (hp : KP w' O' T' y z ys' zs' a' b') (hO : ∀ x, O' x → O x ∨ w.heap.size ≤ x) (hT : ∀ x, T' x → T x ∨ w.heap.size ≤ x) : KG w0 w' i g y z S O' T' ys' zs' a' b' d :=
  ⟨h.da.keep hf fun x hS hO => (h.so x hS).1 hO, hp, fun x hS => ⟨fun hx => (hO x hx).elim (h.so x hS).1 (fun hge => by have := (h.s0 x hS).2; omega), fun hx => (hT x hx).elim (h.so x hS).2 (fun hge => by have := (h.s0 x hS).2; omega)⟩,
    fun x hS => ⟨(h.s0 x hS).1, Nat.lt_of_lt_of_le (h.s0 x hS).2 hf.size⟩, fun x hx => (hO x hx).elim (h.o0 x) (fun hge => Nat.le_trans h.bl.size hge), fun x hx => (hT x hx).elim (h.t0 x) (fun hge => Nat.le_trans h.bl.size hge),
    h.bl.trans (hf.below h.o0 h.bl.size), h.f, h.k, h.l⟩
set_option maxRecDepth 100000 in
theorem KG.fr (h : KG w0 w i g y z S O T ys zs a b d) (hf : Fr w w' No) : KG w0 w' i g y z S O T ys zs a b d :=
  h.law (hf.mono fun _ _ hn => hn.elim) (h.p.keep hf (fun _ _ hn => hn) (fun _ _ hn => hn)) (fun _ hx => Or.inl hx) (fun _ hx => Or.inl hx)
set_option maxRecDepth 100000 in
/-- new bytes are let in -/
theorem KG.bytes (h : KG w0 w i g y z S O T ys zs a b d) (hf : Fr w w' No) : KG w0 w' i g y z S O (fun x => T x ∨ (w.heap.size ≤ x ∧ x < w'.heap.size)) ys zs a b d := by
  have hp := h.p.keep hf (fun _ _ hn => hn) (fun _ _ hn => hn)
  refine h.law (hf.mono fun _ _ hn => hn.elim) (hp.more (fun _ hg => Or.inl hg) (fun x hx hO => ?_) (fun x hx => ?_)) (fun _ hx => Or.inl hx) (fun _ hx => hx.imp id fun hx => hx.1)
  · rcases hx with hx | hx
    · exact h.p.ot x hx hO
    · have := h.p.ol x hO; omega
  · rcases hx with hx | hx
    · exact hp.tl x hx
    · exact hx.2
set_option maxRecDepth 100000 in
theorem KG.up (h : KG w0 w i g y z S O T ys zs a b d) : KG w0 w (i + 1) g y z S O T ys zs a b d := ⟨h.da, h.p, h.so, h.s0, h.o0, h.t0, h.bl, h.f, h.k, Nat.le_succ_of_le h.l⟩
set_option maxRecDepth 100000 in
theorem free_next {d : DS} (h : d.dark = false ∧ d.trip = -1) : d.next = d ∧ d.may = true := by
  unfold DS.next DS.may
  rw [h.1, h.2]
  exact ⟨rfl, rfl⟩
end
def WS (kx : Nat) (a : Int) (b : Value) (w : World) : Prop := w.cell? ⟨kx, 1, none⟩ = some (.int .i64 a) ∧ w.cell? ⟨kx, 2, none⟩ = some b
set_option maxRecDepth 100000 in
theorem WS.keep {kx : Nat} {a : Int} {b : Value} {w w' : World} {U : Nat → Prop} (h : WS kx a b w) (hf : Fr w w' U) (hn : ¬ U kx) : WS kx a b w' := by
  have hlt := block_lt_of_cell h.1
  have e := hf.block kx hlt hn
  exact ⟨(World.cell?_of_block e).trans h.1, (World.cell?_of_block e).trans h.2⟩
set_option maxRecDepth 100000 in
theorem wp_app37 {o : Oper} {a : Act} {w : World} {K : Act → World → Prop} {Q : Exit → Act → World → Prop} (s x : Operand) (ho : o.op = .call { callee := .builtin .append, args := #[s, x], argTypes := #[37, 37] })
    (v y : Value) (hs : a.eval s = v) (hx : a.eval x = y) (v' : Value) (w' : World) (hrun : (Builtin.append_ #[37, 37] o.type #[v, y]).run Try.prog w = .ok v' w') (h : K (a.put o.dst v') w') : o.wp Try.prog a w K Q := by
  unfold Oper.wp execOp
  simp only [ho, resolve, invoke, builtin, Sem.run_bind, Sem.run_pure, Result.andThen_ok, List.map_toArray, List.map_cons, List.map_nil, hs, hx, hrun]
  exact h
set_option maxRecDepth 100000 in
/-- all that the push of a copy comes to -/
theorem KG.pushed {w0 w x : World} {i g y z : Nat} {S O T : Nat → Prop} {ys zs : List Value} {a : List (List Nat)} {b : List (List (List Nat))} {d : DS} (h : KG w0 w i g y z S O T ys zs a b d) (hf : Fr w x No) {k : Nat} (hk : k < 4) {A : Option Addr} {c : Nat} {l : List Nat}
    (hr : RB x (fun q => w.heap.size ≤ q) A l.length l) (hlen : (b.getD k []).length < 1000000) (ty : TypeId) : ∃ v' w4, (Builtin.append_ #[37, 37] ty #[zs.getD k undef, .slice (some ⟨x.heap.size, 0, none⟩) 1 1]).run Try.prog (x.alloc (.cells #[.slice A l.length c] 33)) = .ok v' w4 ∧
      (∃ A' n' c', v' = .slice A' n' c') ∧ Blk w4 z 37 zs.toArray ∧ (∃ O' T', KG w0 (w4.setCell ⟨z, k, none⟩ v') i g y z S O' T' ys (zs.set k v') a (b.set k (b.getD k [] ++ [l])) d) ∧ (∀ kx, kx < w.heap.size → ¬ O kx → w4.heap[kx]? = w.heap[kx]? ∧ (w4.setCell ⟨z, k, none⟩ v').heap[kx]? = w.heap[kx]?) := by
  have h1 := h.bytes hf
  obtain ⟨x2, hx2⟩ : ∃ x2, x2 = x.alloc (.cells #[.slice A l.length c] 33) := ⟨_, rfl⟩
  have hfx : Fr x x2 No := by rw [hx2]; exact (Fr.refl _ _).alloc _
  have h2 := h1.fr hfx
  rw [← hx2]
  have hsl : SL x2 (fun q => T q ∨ (w.heap.size ≤ q ∧ q < x.heap.size)) (.slice A l.length c) l := by
    have : SL x (fun q => T q ∨ (w.heap.size ≤ q ∧ q < x.heap.size)) (.slice A l.length c) l := ⟨A, c, rfl, hr.mono fun q hq hS => Or.inr ⟨hS, hq⟩⟩
    exact this.keep hfx fun _ _ hn => hn
  have hG : Blk x2 x.heap.size 33 #[.slice A l.length c] := by rw [hx2]; exact Blk.new x 33 _
  obtain ⟨v', w4, hrun, hrow, hgr, hat, hsh⟩ := run_app37 ty (h2.p.sz k hk) (.slice A l.length c) l hsl rfl x.heap.size hG hlen h2.p.ot
  obtain ⟨hp, hfr⟩ := h2.p.push hk hrow hgr hat
  obtain ⟨A', c', hv⟩ := hsh
  have hbz : Blk w4 z 37 zs.toArray := h2.p.bz.grown hgr fun e => (h2.p.sz k hk).own_ne h2.p.bz (by decide) e.symm
  refine ⟨v', w4, hrun, ⟨A', _, c', hv⟩, hbz, ⟨_, _, h2.law hfr hp (fun q hq => hq.1) (fun _ hq => Or.inl hq)⟩, fun kx hkx hO => ?_⟩
  have hown : some kx ≠ (zs.getD k undef).ownBlock := fun e => by
    obtain ⟨xs, _, q2, _⟩ := h2.p.sz k hk
    exact hO (q2 kx e.symm)
  have e1 : x2.heap[kx]? = w.heap[kx]? := (hfx.block kx (Nat.lt_of_lt_of_le hkx hf.size) fun hn => hn).trans (hf.block kx hkx fun hn => hn)
  have hlt2 : kx < x2.heap.size := Nat.lt_of_lt_of_le hkx (Nat.le_trans hf.size hfx.size)
  have e2 : w4.heap[kx]? = x2.heap[kx]? := hgr.block kx hlt2 hown
  have e3 : (w4.setCell ⟨z, k, none⟩ v').heap[kx]? = w4.heap[kx]? := Below.heap_setCell w4 _ v' kx fun e => hO (e ▸ h.p.oz)
  exact ⟨e2.trans e1, e3.trans (e2.trans e1)⟩
end Go.Proofs.Ytjblcligkgjbjaa
