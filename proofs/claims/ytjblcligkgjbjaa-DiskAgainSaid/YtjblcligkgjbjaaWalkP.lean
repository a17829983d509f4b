/-
  ROWS OF BYTES IN MEMORY: what was synced, what was written since.
-/
import Derived.Test.YtjblcligkgjbjaaWalkK
import Derived.Test.YtjblcligkgjbjaaWalkL
namespace Go.Proofs.Ytjblcligkgjbjaa
open Go.RowKit Go.Sort Go.Maps

/-- x is a slice that reads as the bytes l, below in T -/
def SL (w : World) (T : Nat → Prop) (x : Value) (l : List Nat) : Prop := ∃ A c, x = .slice A l.length c ∧ RB w T A l.length l
/-- v is a slice of the call's own, its block one of O, that reads as the rows L of bytes -/
def Row (w : World) (O T : Nat → Prop) (v : Value) (L : List (List Nat)) : Prop :=
  ∃ xs : List Value, w.ownsRow 0 33 1 v L.length xs ∧ (∀ b, v.ownBlock = some b → O b) ∧ ∀ (i : Nat) (l : List Nat), L[i]? = some l → ∃ x, xs[i]? = some x ∧ SL w T x l
section
variable {w w' : World} {O T S U : Nat → Prop} {x v : Value} {l : List Nat} {L : List (List Nat)}
set_option maxRecDepth 100000 in
theorem SL.keep (h : SL w T x l) (hf : Fr w w' U) (hd : ∀ b, T b → ¬ U b) : SL w' T x l := by
  obtain ⟨A, c, e, hr⟩ := h
  exact ⟨A, c, e, hr.keep hf hd⟩
set_option maxRecDepth 100000 in
theorem SL.mono (h : SL w T x l) (hd : ∀ b, b < w.heap.size → T b → U b) : SL w U x l := by
  obtain ⟨A, c, e, hr⟩ := h
  exact ⟨A, c, e, hr.mono hd⟩
set_option maxRecDepth 100000 in
theorem SL.lt (h : SL w T x l) : ∀ y ∈ l, y < 256 := by obtain ⟨A, c, e, hr⟩ := h; exact hr.lt
set_option maxRecDepth 100000 in
theorem Row.nil_ (w : World) (O T : Nat → Prop) : Row w O T (.slice none 0 0) [] := ⟨[], World.ownsRow_nil w 0 33 1, fun k hk => by simp [Value.ownBlock] at hk, fun i l h => by simp at h⟩
set_option maxRecDepth 100000 in
theorem Row.stays (h : Row w O T v L) (hk : ∀ g, v.ownBlock = some g → w'.heap[g]? = w.heap[g]?) (hT : ∀ x l, SL w T x l → SL w' T x l) : Row w' O T v L := by
  obtain ⟨xs, ⟨h1, h2⟩, h4, h5⟩ := h
  refine ⟨xs, ⟨h1, ?_⟩, h4, fun i l hi => ?_⟩
  · rcases h2 with h2 | ⟨g, cap, cur, hv, hg, hh, r⟩
    · exact Or.inl h2
    · exact Or.inr ⟨g, cap, cur, hv, hg, (hk g (by rw [hv]; rfl)).trans hh, r⟩
  · obtain ⟨x, e, hs⟩ := h5 i l hi
    exact ⟨x, e, hT x l hs⟩
set_option maxRecDepth 100000 in
theorem Row.mono (h : Row w O T v L) (hO : ∀ b, b < w.heap.size → O b → S b) (hT : ∀ b, b < w.heap.size → T b → U b) : Row w S U v L := by
  obtain ⟨xs, h1, h4, h5⟩ := h
  refine ⟨xs, h1, fun b hb => hO b (h1.lt b hb).2 (h4 b hb), fun i l hi => ?_⟩
  obtain ⟨x, e, hs⟩ := h5 i l hi
  exact ⟨x, e, hs.mono hT⟩
set_option maxRecDepth 100000 in
/-- what it looks like -/
theorem Row.look (h : Row w O T v L) : ∃ A cap, v = .slice A L.length cap ∧ ∀ (i : Nat) (l : List Nat), L[i]? = some l → ∃ g x, A = some ⟨g, 0, none⟩ ∧ w.cell? ⟨g, i, none⟩ = some x ∧ SL w T x l := by
  obtain ⟨xs, ⟨h1, h2⟩, h4, h5⟩ := h
  rcases h2 with ⟨rfl, h0⟩ | ⟨g, cap, cur, rfl, _, hh, hc, hm, hs, ht⟩
  · exact ⟨none, 0, by rw [h0], fun i l hi => by rw [List.eq_nil_of_length_eq_zero h0] at hi; simp at hi⟩
  · refine ⟨_, cap, rfl, fun i l hi => ?_⟩
    obtain ⟨x, e, hsl⟩ := h5 i l hi
    refine ⟨g, x, rfl, ?_, hsl⟩
    have hil : i < xs.length := (List.getElem?_eq_some_iff.1 e).1
    rw [cell_of_row w g i cur 33 (0, 0) hh]
    have e2 := e
    rw [← ht, List.getElem?_take_of_lt (by omega)] at e2
    simpa using e2
set_option maxRecDepth 100000 in
theorem Row.own_ne {g : Nat} {t : TypeId} {cs : Array Value} (h : Row w O T v L) (hg : Blk w g t cs) (ht : (33 : TypeId) ≠ t) : v.ownBlock ≠ some g := by
  obtain ⟨xs, h1, _⟩ := h
  exact fun e => hg.own_ne h1 ht e.symm
end
set_option maxRecDepth 100000 in
theorem info33 : (Try.prog.info? 33).map (fun i => (i.zero, i.size, i.bytes)) = some (some (.slice none 0 0), 1, 24) := by kernel_rfl
set_option maxRecDepth 100000 in
/-- one row of bytes more -/
theorem run_app37 (ty : TypeId) {w : World} {O T : Nat → Prop} {v : Value} {L : List (List Nat)} (h : Row w O T v L) (x : Value) (l : List Nat) (hx : SL w T x l) (h1 : x.oneCell' = true) (G : Nat) (hg : Blk w G 33 #[x]) (hlen : L.length < 1000000)
    (hOT : ∀ b, T b → ¬ O b) :
    ∃ v' w', (Builtin.append_ #[37, 37] ty #[v, .slice (some ⟨G, 0, none⟩) 1 1]).run Try.prog w = .ok v' w' ∧ Row w' (Up O w) T v' (L ++ [l]) ∧ w.grownBy w' v.ownBlock ∧ (v'.ownBlock = v.ownBlock ∨ v'.ownBlock = some w.heap.size) ∧ ∃ A c, v' = .slice A (L.length + 1) c := by
  obtain ⟨i0, hi, hz0, hz1, hz2⟩ := info_parts info33
  obtain ⟨xs, ho, hO, hsl⟩ := h
  obtain ⟨v', w', r1, r2, r3, _, r5⟩ := run_append_own_at (P := Try.prog) w 0 37 ty 33 i0 _ 1 24 Try.underlying37 hi hz0 hz1 hz2 rfl (by decide) v L.length xs ho ⟨G, 0, none⟩ 1 1 [x]
    rfl (fun j u hj => by
      rw [add_head, hg.cell]
      match j with
      | 0 => simpa using hj
      | j + 1 => simp at hj) (by intro u hu; rw [List.mem_singleton] at hu; subst hu; exact h1) (by simp only [maxLen]; omega) (by omega) (Nat.zero_le _)
  have hxl : xs.length = L.length := by simpa using ho.1
  have hT : ∀ x l, SL w T x l → SL w' T x l := by
    intro x l ⟨A, c, e, hr⟩
    refine ⟨A, c, e, hr.move r3.size fun p hp hS => World.cell?_of_block (r3.block _ hp fun e => ?_)⟩
    exact hOT _ hS (hO _ e.symm)
  have hsh : ∃ A c, v' = .slice A (L.length + 1) c := by
    rcases r2.2 with ⟨e, e0⟩ | ⟨g, cap, cur, e, _⟩
    · omega
    · exact ⟨_, _, e⟩
  refine ⟨v', w', r1, ⟨xs ++ [x], ?_, fun k hk => ?_, fun i m hi => ?_⟩, r3, r5, hsh⟩
  · rw [List.length_append]; exact r2
  · rcases r5 with r5 | r5
    · exact Or.inl (hO k (by rw [← r5]; exact hk))
    · rw [r5] at hk
      injection hk with hk
      exact Or.inr (by omega)
  · rcases Nat.lt_or_ge i L.length with hlt | hge
    · rw [List.getElem?_append_left hlt] at hi
      obtain ⟨x', e, hs⟩ := hsl i m hi
      exact ⟨x', by rw [List.getElem?_append_left (by omega)]; exact e, hT _ _ hs⟩
    · rw [List.getElem?_append_right hge] at hi
      have h0 : i - L.length = 0 := by
        rcases Nat.eq_zero_or_pos (i - L.length) with h0 | h0
        · exact h0
        · rw [List.getElem?_eq_none (by simp; omega)] at hi; cases hi
      rw [h0] at hi
      simp at hi
      subst hi
      exact ⟨x, by rw [List.getElem?_append_right (by omega), hxl, h0]; rfl, hT _ _ hx⟩

/-! ### What the law keeps: what was synced (y), what was written since (z) -/
structure KP (w : World) (O T : Nat → Prop) (y z : Nat) (ys zs : List Value) (a : List (List Nat)) (b : List (List (List Nat))) : Prop where
  oy : O y
  oz : O z
  by_ : Blk w y 33 ys.toArray
  bz : Blk w z 37 zs.toArray
  ly : ys.length = 4
  lz : zs.length = 4
  la : a.length = 4
  lb : b.length = 4
  sy : ∀ k, k < 4 → SL w T (ys.getD k undef) (a.getD k [])
  sz : ∀ k, k < 4 → Row w O T (zs.getD k undef) (b.getD k [])
  ny : ∀ k, k < 4 → (zs.getD k undef).ownBlock ≠ some y
  ap : ∀ j k, j < 4 → k < 4 → j ≠ k → ∀ g, (zs.getD j undef).ownBlock = some g → (zs.getD k undef).ownBlock ≠ some g
  ot : ∀ g, T g → ¬ O g
  ol : ∀ g, O g → g < w.heap.size
  tl : ∀ g, T g → g < w.heap.size
section
variable {w w' : World} {O T S U : Nat → Prop} {y z : Nat} {ys zs : List Value} {a : List (List Nat)} {b : List (List (List Nat))}
set_option maxRecDepth 100000 in
/-- another's memory has changed -/
theorem KP.keep (h : KP w O T y z ys zs a b) (hf : Fr w w' U) (hO : ∀ g, O g → ¬ U g) (hT : ∀ g, T g → ¬ U g) : KP w' O T y z ys zs a b :=
  ⟨h.oy, h.oz, h.by_.keep hf (hO _ h.oy), h.bz.keep hf (hO _ h.oz), h.ly, h.lz, h.la, h.lb, fun k hk => (h.sy k hk).keep hf hT,
    fun k hk => (h.sz k hk).stays (fun g hg => hf.block g (by obtain ⟨xs, h1, _⟩ := h.sz k hk; exact (h1.lt g hg).2) (hO g (by obtain ⟨xs, _, h2, _⟩ := h.sz k hk; exact h2 g hg))) fun x l hs => hs.keep hf hT,
    h.ny, h.ap, h.ot, fun g hg => Nat.lt_of_lt_of_le (h.ol g hg) hf.size, fun g hg => Nat.lt_of_lt_of_le (h.tl g hg) hf.size⟩
set_option maxRecDepth 100000 in
/-- more bytes are let in -/
theorem KP.more (h : KP w O T y z ys zs a b) (hU : ∀ g, T g → U g) (hUO : ∀ g, U g → ¬ O g) (hUl : ∀ g, U g → g < w.heap.size) : KP w O U y z ys zs a b :=
  ⟨h.oy, h.oz, h.by_, h.bz, h.ly, h.lz, h.la, h.lb, fun k hk => (h.sy k hk).mono fun g _ hg => hU g hg, fun k hk => (h.sz k hk).mono (fun _ _ h => h) fun g _ hg => hU g hg, h.ny, h.ap, hUO, h.ol, hUl⟩
set_option maxRecDepth 100000 in
theorem getD_set {α : Type} (l : List α) (i j : Nat) (x z : α) (hi : i < l.length) : (l.set i x).getD j z = if i = j then x else l.getD j z := by
  by_cases h : i = j
  · subst h; simp [hi]
  · simp [h]
set_option maxRecDepth 100000 in
/-- y[k] is set -/
theorem KP.setY (h : KP w O T y z ys zs a b) {k : Nat} (hk : k < 4) {x : Value} {l : List Nat} (hx : SL w T x l) : KP (w.setCell ⟨y, k, none⟩ x) O T y z (ys.set k x) zs (a.set k l) b := by
  have hh : ∀ g, g ≠ y → (w.setCell ⟨y, k, none⟩ x).heap[g]? = w.heap[g]? := fun g hg => Below.heap_setCell w _ x g hg
  have hS : ∀ x' l, SL w T x' l → SL (w.setCell ⟨y, k, none⟩ x) T x' l := fun x' l hs => hs.keep (U := fun g => g = y) (Fr.setCell (S := fun g => g = y) (Fr.refl w _) (p := ⟨y, k, none⟩) (Or.inl rfl) x) fun g hg e => h.ot g hg (e ▸ h.oy)
  refine ⟨h.oy, h.oz, ?_, h.bz.far (h.bz.ne_ h.by_ (by decide)) x, by simpa using h.ly, h.lz, by simpa using h.la, h.lb, fun j hj => ?_, fun j hj => ?_, h.ny, h.ap, h.ot, fun g hg => by simpa using h.ol g hg, fun g hg => by simpa using h.tl g hg⟩
  · have := h.by_.set_ k x
    simpa using this
  · rw [getD_set _ _ _ _ _ (by rw [h.ly]; exact hk), getD_set _ _ _ _ _ (by rw [h.la]; exact hk)]
    split
    · exact hS _ _ hx
    · exact hS _ _ (h.sy j hj)
  · exact (h.sz j hj).stays (fun g hg => hh g fun e => h.ny j hj (e ▸ hg)) hS
set_option maxRecDepth 100000 in
/-- z[k] is emptied -/
theorem KP.emptyZ (h : KP w O T y z ys zs a b) {k : Nat} (hk : k < 4) : KP (w.setCell ⟨z, k, none⟩ (.slice none 0 0)) O T y z ys (zs.set k (.slice none 0 0)) a (b.set k []) := by
  have hh : ∀ g, g ≠ z → (w.setCell ⟨z, k, none⟩ (.slice none 0 0)).heap[g]? = w.heap[g]? := fun g hg => Below.heap_setCell w _ _ g hg
  have hS : ∀ x' l, SL w T x' l → SL (w.setCell ⟨z, k, none⟩ (.slice none 0 0)) T x' l := fun x' l hs => hs.keep (U := fun g => g = z) (Fr.setCell (S := fun g => g = z) (Fr.refl w _) (p := ⟨z, k, none⟩) (Or.inl rfl) _) fun g hg e => h.ot g hg (e ▸ h.oz)
  have hz : (Value.slice none 0 0).ownBlock = none := rfl
  refine ⟨h.oy, h.oz, h.by_.far (h.by_.ne_ h.bz (by decide)) _, ?_, h.ly, by simpa using h.lz, h.la, by simpa using h.lb, fun j hj => hS _ _ (h.sy j hj), fun j hj => ?_, fun j hj => ?_, fun i j hi hj hij g => ?_, h.ot, fun g hg => by simpa using h.ol g hg, fun g hg => by simpa using h.tl g hg⟩
  · have := h.bz.set_ k (.slice none 0 0)
    simpa using this
  · rw [getD_set _ _ _ _ _ (by rw [h.lz]; exact hk), getD_set _ _ _ _ _ (by rw [h.lb]; exact hk)]
    split
    · exact Row.nil_ _ _ _
    · exact (h.sz j hj).stays (fun g hg => hh g fun e => (h.sz j hj).own_ne h.bz (by decide) (e ▸ hg)) hS
  · rw [getD_set _ _ _ _ _ (by rw [h.lz]; exact hk)]
    split
    · rw [hz]; simp
    · exact h.ny j hj
  · rw [getD_set _ _ _ _ _ (by rw [h.lz]; exact hk), getD_set _ _ _ _ _ (by rw [h.lz]; exact hk)]
    intro hg
    split at hg
    · rw [hz] at hg; cases hg
    · split
      · rw [hz]; simp
      · exact h.ap i j hi hj hij g hg
def Upo (O : Nat → Prop) (w w' : World) : Nat → Prop := fun g => Up O w g ∧ g < w'.heap.size
set_option maxRecDepth 100000 in
/-- a row of bytes is appended to z[k] -/
theorem KP.push (h : KP w O T y z ys zs a b) {k : Nat} (hk : k < 4) {v' : Value} {l : List Nat} (hr : Row w' (Up O w) T v' (b.getD k [] ++ [l])) (hg : w.grownBy w' (zs.getD k undef).ownBlock)
    (hat : v'.ownBlock = (zs.getD k undef).ownBlock ∨ v'.ownBlock = some w.heap.size) :
    KP (w'.setCell ⟨z, k, none⟩ v') (Upo O w w') T y z ys (zs.set k v') a (b.set k (b.getD k [] ++ [l])) ∧ Fr w (w'.setCell ⟨z, k, none⟩ v') O := by
  have hzO : ∀ g, (zs.getD k undef).ownBlock = some g → O g := by obtain ⟨xs, _, h2, _⟩ := h.sz k hk; exact h2
  have hb : Blk w' z 37 zs.toArray := h.bz.grown hg fun e => (h.sz k hk).own_ne h.bz (by decide) e.symm
  have hy : Blk w' y 33 ys.toArray := h.by_.grown hg fun e => h.ny k hk e.symm
  have hS0 : ∀ x' l, SL w T x' l → SL w' T x' l := by
    intro x l ⟨A, c, e, hr⟩
    exact ⟨A, c, e, hr.move hg.size fun p hp hS => World.cell?_of_block (hg.block _ hp fun e => h.ot _ hS (hzO _ e.symm))⟩
  have hS1 : ∀ x' l, SL w' T x' l → SL (w'.setCell ⟨z, k, none⟩ v') T x' l := fun x' l hs => hs.keep (U := fun g => g = z) (Fr.setCell (S := fun g => g = z) (Fr.refl w' _) (p := ⟨z, k, none⟩) (Or.inl rfl) _) fun g hg e => h.ot g hg (e ▸ h.oz)
  have hh : ∀ g, g ≠ z → (w'.setCell ⟨z, k, none⟩ v').heap[g]? = w'.heap[g]? := fun g hg => Below.heap_setCell w' _ v' g hg
  have hzl : z < w.heap.size := h.bz.lt
  have hUO : ∀ g, g < w'.heap.size → O g → Upo O w w' g := fun g hlt hO => ⟨Or.inl hO, hlt⟩
  have hrow : ∀ j, j < 4 → j ≠ k → Row (w'.setCell ⟨z, k, none⟩ v') (Upo O w w') T (zs.getD j undef) (b.getD j []) := fun j hj hne => by
    have hj2 := h.sz j hj
    have h1 : Row w' O T (zs.getD j undef) (b.getD j []) := hj2.stays (fun g hgo => hg.block g (by obtain ⟨xs, h1, _⟩ := hj2; exact (h1.lt g hgo).2) fun e => h.ap j k hj hk hne g hgo e.symm) hS0
    exact (h1.stays (fun g hgo => hh g fun e => h1.own_ne hb (by decide) (e ▸ hgo)) hS1).mono (fun g hlt hO => hUO g (by simpa using hlt) hO) fun _ _ h => h
  have hownlt : ∀ j, j < 4 → ∀ g, (zs.getD j undef).ownBlock = some g → g < w.heap.size := fun j hj g hgo => by obtain ⟨xs, h1, _⟩ := h.sz j hj; exact (h1.lt g hgo).2
  refine ⟨⟨⟨Or.inl h.oy, Nat.lt_of_lt_of_le h.by_.lt hg.size⟩, ⟨Or.inl h.oz, Nat.lt_of_lt_of_le hzl hg.size⟩, hy.far (hy.ne_ hb (by decide)) _, ?_, h.ly, by simpa using h.lz, h.la, by simpa using h.lb, fun j hj => hS1 _ _ (hS0 _ _ (h.sy j hj)), fun j hj => ?_, fun j hj => ?_, fun i j hi hj hij g => ?_, ?_, ?_, ?_⟩, ?_⟩
  · have := hb.set_ k v'
    simpa using this
  · rw [getD_set _ _ _ _ _ (by rw [h.lz]; exact hk), getD_set _ _ _ _ _ (by rw [h.lb]; exact hk)]
    split
    · exact ((hr.stays (fun g hgo => hh g fun e => hr.own_ne hb (by decide) (e ▸ hgo)) hS1)).mono (fun g hlt hU => ⟨hU, by simpa using hlt⟩) fun _ _ h => h
    · rename_i hne
      exact hrow j hj (Ne.symm hne)
  · rw [getD_set _ _ _ _ _ (by rw [h.lz]; exact hk)]
    split
    · rcases hat with e | e
      · rw [e]; exact h.ny k hk
      · rw [e]; intro e2; injection e2 with e2; have := h.by_.lt; omega
    · exact h.ny j hj
  · rw [getD_set _ _ _ _ _ (by rw [h.lz]; exact hk), getD_set _ _ _ _ _ (by rw [h.lz]; exact hk)]
    intro hgi
    split at hgi
    · rename_i hik
      rw [if_neg (fun e => hij (hik.symm.trans e))]
      subst hik
      rcases hat with e | e
      · rw [e] at hgi; exact h.ap k j hk hj hij g hgi
      · rw [e] at hgi; injection hgi with hgi
        intro e2
        have := hownlt j hj g e2
        omega
    · rename_i hik
      split
      · rename_i hjk
        subst hjk
        rcases hat with e | e
        · rw [e]; exact h.ap i k hi hk hij g hgi
        · rw [e]; intro e2; injection e2 with e2
          have := hownlt i hi g hgi
          omega
      · exact h.ap i j hi hj hij g hgi
  · intro g hT hU
    rcases hU.1 with hO | hO
    · exact h.ot g hT hO
    · have := h.tl g hT; omega
  · intro g hU; simpa using hU.2
  · intro g hT; have := h.tl g hT; have := hg.size; simp; omega
  · exact ((Fr.refl w O).grown hg fun g e => Or.inl (hzO g e)).setCell (Or.inl h.oz) _
end
end Go.Proofs.Ytjblcligkgjbjaa
