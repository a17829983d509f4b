/-
  SYNC AND CUT: what the law keeps, sector by sector.
-/
import Derived.Test.YtjblcligkgjbjaaWalkQ
import Derived.BigQuiet
namespace Go.Proofs.Ytjblcligkgjbjaa
open Go.RowKit Go.Sort Go.Maps

/-- the first k sectors are synced -/
def mixA (d : DS) (k : Nat) : List (List Nat) := (List.range 4).map fun j => if j < k then d.seen j else d.kept.getD j []
def mixB (d : DS) (k : Nat) : List (List (List Nat)) := (List.range 4).map fun j => if j < k then [] else since d.cache j
set_option maxRecDepth 100000 in
theorem range4_at {α : Type} (f : Nat → α) (z : α) {k : Nat} (h : k < 4) : ((List.range 4).map f).getD k z = f k := by simp [h]
set_option maxRecDepth 100000 in
theorem range4_set {α : Type} (f h : Nat → α) (x : α) {k : Nat} (hk : k < 4) (hx : h k = x) (hne : ∀ j, j ≠ k → h j = f j) : ((List.range 4).map f).set k x = (List.range 4).map h := by
  apply List.ext_getElem?
  intro j
  rw [List.getElem?_set]
  by_cases hj : j < 4
  · by_cases hkj : k = j
    · subst hkj; simp [hk, hx]
    · rw [if_neg hkj]; simp [hj, hne j (Ne.symm hkj)]
  · have h1 : ¬ k = j := by omega
    rw [if_neg h1]
    simp [List.getElem?_eq_none (l := List.range 4) (show (List.range 4).length ≤ j by simp; omega)]
set_option maxRecDepth 100000 in
theorem list4 {α : Type} (l : List α) (z : α) (h : l.length = 4) : l = (List.range 4).map fun j => l.getD j z := by
  apply List.ext_getElem?
  intro j
  by_cases hj : j < 4
  · simp [hj, h]
  · rw [List.getElem?_eq_none (by omega)]
    simp [List.getElem?_eq_none (l := List.range 4) (show (List.range 4).length ≤ j by simp; omega)]
set_option maxRecDepth 100000 in
theorem mixA_at (d : DS) {k : Nat} (h : k < 4) : (mixA d k).getD k [] = d.kept.getD k [] := by
  rw [mixA, range4_at _ _ h]; simp
set_option maxRecDepth 100000 in
theorem mixB_at (d : DS) {k : Nat} (h : k < 4) : (mixB d k).getD k [] = since d.cache k := by
  rw [mixB, range4_at _ _ h]; simp
set_option maxRecDepth 100000 in
theorem mixA_zero {d : DS} (h : d.kept.length = 4) : mixA d 0 = d.kept := by
  rw [list4 d.kept [] h, mixA]
  simp
set_option maxRecDepth 100000 in
theorem mixB_zero (d : DS) : mixB d 0 = sinces d.cache := by
  simp [mixB, sinces]
set_option maxRecDepth 100000 in
theorem mixA_succ (d : DS) {k : Nat} (h : k < 4) : (mixA d k).set k (d.seen k) = mixA d (k + 1) :=
  range4_set _ _ _ h (by simp) fun j hj => by
    show (if j < k + 1 then _ else _) = (if j < k then _ else _)
    by_cases hlt : j < k
    · rw [if_pos (by omega), if_pos hlt]
    · rw [if_neg (by omega), if_neg hlt]
set_option maxRecDepth 100000 in
theorem mixB_succ (d : DS) {k : Nat} (h : k < 4) : (mixB d k).set k [] = mixB d (k + 1) :=
  range4_set _ _ _ h (by simp) fun j hj => by
    show (if j < k + 1 then _ else _) = (if j < k then _ else _)
    by_cases hlt : j < k
    · rw [if_pos (by omega), if_pos hlt]
    · rw [if_neg (by omega), if_neg hlt]
set_option maxRecDepth 100000 in
theorem mixA_stay (d : DS) {k : Nat} (h : k < 4) (h0 : since d.cache k = []) : mixA d (k + 1) = mixA d k := by
  unfold mixA
  apply List.map_congr_left
  intro j _
  by_cases hj : j = k
  · subst hj
    rw [if_pos (by omega), if_neg (by omega), seen_last, h0]; rfl
  · by_cases hlt : j < k
    · rw [if_pos (by omega), if_pos hlt]
    · rw [if_neg (by omega), if_neg hlt]
set_option maxRecDepth 100000 in
theorem mixA_end {d : DS} (hok : d.Ok) (h : d.kept.length = 4) : mixA d 4 = d.sync.kept := by
  have hl : d.sync.kept.length = 4 := by show (setN _ _ _).length = 4; rw [setN_len]; exact h
  rw [list4 d.sync.kept [] hl, mixA]
  apply List.map_congr_left
  intro j hj
  have hj4 : j < 4 := by simpa using hj
  rw [if_pos hj4, sync_at hok (by omega)]
set_option maxRecDepth 100000 in
theorem mixB_end (d : DS) : mixB d 4 = sinces d.sync.cache := by
  unfold mixB sinces
  apply List.map_congr_left
  intro j hj
  have hj4 : j < 4 := by simpa using hj
  rw [if_pos hj4]
  rfl
section
variable {w0 w w' : World} {i g y z : Nat} {S O T : Nat → Prop} {ys zs : List Value} {a : List (List Nat)} {b : List (List (List Nat))} {d : DS}
set_option maxRecDepth 100000 in
/-- y[k] is set to a row's bytes -/
theorem KG.setY (h : KG w0 w i g y z S O T ys zs a b d) {k : Nat} (hk : k < 4) {x : Value} {l : List Nat} (hx : SL w T x l) : KG w0 (w.setCell ⟨y, k, none⟩ x) i g y z S O T (ys.set k x) zs (a.set k l) b d :=
  h.law ((Fr.refl w O).setCell (Or.inl h.p.oy) _) (h.p.setY hk hx) (fun _ hx => Or.inl hx) (fun _ hx => Or.inl hx)
set_option maxRecDepth 100000 in
theorem KG.emptyZ (h : KG w0 w i g y z S O T ys zs a b d) {k : Nat} (hk : k < 4) : KG w0 (w.setCell ⟨z, k, none⟩ (.slice none 0 0)) i g y z S O T ys (zs.set k (.slice none 0 0)) a (b.set k []) d :=
  h.law ((Fr.refl w O).setCell (Or.inl h.p.oz) _) (h.p.emptyZ hk) (fun _ hx => Or.inl hx) (fun _ hx => Or.inl hx)
set_option maxRecDepth 100000 in
/-- what z[k] looks like -/
theorem KG.lookZ (h : KG w0 w i g y z S O T ys zs a b d) {k : Nat} (hk : k < 4) : ∃ A c, zs.getD k undef = .slice A (b.getD k []).length c ∧ w.cell? ⟨z, k, none⟩ = some (.slice A (b.getD k []).length c) ∧
    ∀ (j : Nat) (l : List Nat), (b.getD k [])[j]? = some l → ∃ G x, A = some ⟨G, 0, none⟩ ∧ w.cell? ⟨G, j, none⟩ = some x ∧ SL w T x l := by
  obtain ⟨A, c, e, hl⟩ := (h.p.sz k hk).look
  refine ⟨A, c, e, ?_, hl⟩
  rw [h.p.bz.cell, ← e]
  have hz := h.p.lz
  simp [show k < zs.length by omega]
set_option maxRecDepth 100000 in
theorem KG.lookY (h : KG w0 w i g y z S O T ys zs a b d) {k : Nat} (hk : k < 4) : ∃ A c, w.cell? ⟨y, k, none⟩ = some (.slice A (a.getD k []).length c) ∧ RB w T A (a.getD k []).length (a.getD k []) := by
  obtain ⟨A, c, e, hl⟩ := h.p.sy k hk
  refine ⟨A, c, ?_, hl⟩
  rw [h.p.by_.cell, ← e]
  have hz := h.p.ly
  simp [show k < ys.length by omega]
end
set_option maxRecDepth 100000 in
theorem run_nes (a b : ByteArray) : binOp .neq 9 (.string a) (.string b) = pure (.bool (!seq a b)) := binOp_string_neq 9 a b
set_option maxRecDepth 100000 in
/-- what stands in a sector behind a cut -/
theorem cut_in {d : DS} (hok : d.Ok) (keep : List Bool) {k : Nat} (hk : k < d.kept.length) : (d.cut keep).kept.getD k [] = d.kept.getD k [] ∨ (d.cut keep).kept.getD k [] ∈ since d.cache k :=
  cutN_in _ _ keep hk (fun x hx => (hok.cac x hx).1) _ (Nat.le_refl _)
set_option maxRecDepth 100000 in
theorem cut_all {d : DS} (hok : d.Ok) (keep : List Bool) {k : Nat} (hk : k < d.kept.length) (ha : ∀ q, q < d.cache.length → keep.getD q false = true) : (d.cut keep).kept.getD k [] = (since d.cache k).getLastD (d.kept.getD k []) := by
  show (cutN _ _ keep _).getD k [] = _
  rw [cutN_all _ _ keep _ ha]
  exact (sync_at hok hk).trans (seen_last d k)
set_option maxRecDepth 100000 in
theorem seen_clear {x : DS} (h : x.cache = []) (k : Nat) : x.seen k = x.kept.getD k [] := by
  unfold DS.seen
  rw [h]
  rfl
/-- is v one of these? -/
def inn (v : List Nat) (b0 : Bool) (L : List (List Nat)) (j : Nat) : Bool := b0 || (L.take j).any fun l => seq (bs v) (bs l)
set_option maxRecDepth 100000 in
theorem inn_zero (v : List Nat) (b0 : Bool) (L : List (List Nat)) : inn v b0 L 0 = b0 := by simp [inn]
set_option maxRecDepth 100000 in
theorem inn_succ (v : List Nat) (b0 : Bool) (L : List (List Nat)) {j : Nat} {l : List Nat} (h : L[j]? = some l) : inn v b0 L (j + 1) = (inn v b0 L j || seq (bs v) (bs l)) := by
  obtain ⟨hlt, he⟩ := List.getElem?_eq_some_iff.1 h
  unfold inn
  rw [List.take_succ_eq_append_getElem hlt, List.any_append, he]
  simp [Bool.or_assoc]
set_option maxRecDepth 100000 in
theorem inn_all (v l0 : List Nat) (b0 : Bool) (L : List (List Nat)) (hb : seq (bs v) (bs l0) = b0) (h : v = l0 ∨ v ∈ L) : inn v b0 L L.length = true := by
  unfold inn
  rcases h with h | h
  · subst h
    rw [← hb, seq_refl]; rfl
  · rw [List.take_length]
    have : L.any (fun l => seq (bs v) (bs l)) = true := List.any_eq_true.2 ⟨v, h, seq_refl _⟩
    rw [this]; simp
end Go.Proofs.Ytjblcligkgjbjaa
