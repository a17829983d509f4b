/-
  STAGE 12: who is in a ring: the program's way as a function; what lies in memory meanwhile.
-/
import Derived.Test.YtlblgfpafdfilaaDoorLU
namespace Go.Proofs.YtlblgfpafdfilaaDoor
open Go.RowKit Go.Sort

structure FSt where
  N : List Nat
  O : List Nat
  m : Nat
  v : Nat
def closedN : Nat := 9223372036854775807
/-- a ring's places are closed, and told where they are more than one -/
def closeM (ls : List LK) (many : Bool) : List Nat → FSt → FSt
  | [], s => s
  | p :: r, s => closeM ls many r { s with N := s.N.set p closedN, v := if many = true then max s.v (ls.getD p okz).t else s.v }
def endM (ls : List LK) (number from_ : Nat) (x : FSt × Nat) : Option (FSt × Nat) :=
  if x.2 < number then some x else if x.1.O.length ≤ from_ then none else
    some (closeM ls (decide (1 < x.1.O.length - from_)) (x.1.O.drop from_) { x.1 with O := x.1.O.take from_ }, number)
def stepM (go : Nat → FSt → Option (FSt × Nat)) (ls : List LK) (q : LK) (p : Nat) (k : Nat) (x : FSt × Nat) : Option (FSt × Nat) :=
  if waitM (ls.any (passP q)) q p (ls.getD k okz) k = true then
    (if x.1.N.getD (lastsF ls k) 0 = 0 then (go (lastsF ls k) x.1).bind fun y => some (y.1, min (min x.2 y.2) (y.1.N.getD (lastsF ls k) 0)) else some (x.1, min x.2 (x.1.N.getD (lastsF ls k) 0)))
  else some x
def loopM (go : Nat → FSt → Option (FSt × Nat)) (ls : List LK) (q : LK) (p : Nat) (x : FSt × Nat) : Nat → Option (FSt × Nat)
  | 0 => some x
  | k + 1 => (loopM go ls q p x k).bind (stepM go ls q p k)
def followM (ls : List LK) : Nat → Nat → FSt → Option (FSt × Nat)
  | 0, _, _ => none
  | f + 1, p, s => if 16384 ≤ s.m then none else
    (loopM (followM ls f) ls (ls.getD p okz) p (⟨s.N.set p (s.m + 1), s.O ++ [p], s.m + 1, s.v⟩, s.m + 1) ls.length).bind (endM ls (s.m + 1) s.O.length)
def ringsM (ls : List LK) (f : Nat) : Nat → Option FSt
  | 0 => some ⟨List.replicate ls.length 0, [], 0, 0⟩
  | k + 1 => (ringsM ls f k).bind fun s => if ((ls.getD k okz).h = false ∧ s.N.getD k 0 = 0) then (followM ls f k s).map Prod.fst else some s
theorem loopM_none {go : Nat → FSt → Option (FSt × Nat)} {ls : List LK} {q : LK} {p : Nat} {x : FSt × Nat} {k : Nat} (h : loopM go ls q p x k = none) : ∀ m, k ≤ m → loopM go ls q p x m = none
  | 0, hm => by obtain rfl : k = 0 := by omega
                exact h
  | m + 1, hm => by
    rcases Nat.lt_or_ge k (m + 1) with h1 | h1
    · unfold loopM
      rw [loopM_none h m (by omega)]
      rfl
    · obtain rfl : k = m + 1 := by omega
      exact h
/-- the blocks of the walk over rings -/
structure FB where
  g : Nat
  A : Option Addr
  c : Nat
  a1 : Nat
  a2 : Nat
  a3 : Nat
  a4 : Nat
  a5 : Nat
  a6 : Nat
  a7 : Nat
  a8 : Nat
  a9 : Nat
  nb : Nat
  lb : Nat
def FB.caps (B : FB) : Array Value := #[.pointer (some ⟨B.a1, 0, none⟩), .pointer (some ⟨B.a2, 0, none⟩), .pointer (some ⟨B.a3, 0, none⟩), .pointer (some ⟨B.a4, 0, none⟩), .pointer (some ⟨B.a5, 0, none⟩), .pointer (some ⟨B.a6, 0, none⟩), .pointer (some ⟨B.a7, 0, none⟩)]
structure FB.Ord (B : FB) : Prop where
  o1 : B.a8 < B.a4
  o2 : B.a4 < B.a7
  o3 : B.a7 < B.lb
  o4 : B.lb < B.a5
  o5 : B.a5 < B.nb
  o6 : B.nb < B.a3
  o7 : B.a3 < B.a2
  o8 : B.a2 < B.a1
  o9 : B.a1 < B.a6
  og : B.g < B.a8
  o0 : B.a9 < B.a8
  o2' : 2 ≤ B.a8
/-- what stays throughout -/
structure FX (w : World) (B : FB) (ls : List LK) : Prop where
  bn : Blk w B.a3 61 #[.slice (some ⟨B.nb, 0, none⟩) ls.length ls.length]
  bt : Blk w B.a4 25 #[.pointer (some ⟨B.g, 0, none⟩)]
  bl : Blk w B.a5 61 #[.slice (some ⟨B.lb, 0, none⟩) ls.length ls.length]
  ol : OwR w 3 1 nf (.slice (some ⟨B.lb, 0, none⟩) ls.length ls.length) (lastsM ls)
  bf : Blk w B.a6 82 #[.func (.func 62) #[] B.caps]
  bc : Blk w B.a7 68 #[.func (.func 37) #[] #[.pointer (some ⟨B.a8, 0, none⟩), .pointer (some ⟨B.a9, 0, none⟩)]]
  b9 : Blk w B.a9 25 #[.pointer (some ⟨B.g, 0, none⟩)]
  tr : TR w B.g B.A B.c ls
  tb : ∀ b, B.A = some ⟨b, 0, none⟩ → ls.length = 0 ∨ b < B.a8
  gw : Gw w
  ord : B.Ord
structure FS (w : World) (B : FB) (ls : List LK) (ov : Value) (s : FSt) : Prop where
  fx : FX w B ls
  bm : Blk w B.a1 3 #[.int .i64 (s.m : Int)]
  bo : Blk w B.a2 61 #[ov]
  oo : OwR w 3 1 nf ov s.O
  on_ : OwR w 3 1 nf (.slice (some ⟨B.nb, 0, none⟩) ls.length ls.length) s.N
  bv : Blk w B.a8 34 #[.int .u32 (s.v : Int)]
  new : ∀ b, ov.ownBlock = some b → B.a6 < b
  nl : s.N.length = ls.length
  ol_ : ∀ x ∈ s.O, x < ls.length
  om : s.O.length ≤ s.m
  mm : s.m ≤ 16384
  vv : s.v < 4294967296
/-- what such a call changes -/
structure FC (w w' : World) (B : FB) (ov ov' : Value) : Prop where
  fr : Fr w w' fun b => b = B.a1 ∨ b = B.a2 ∨ b = B.nb ∨ b = B.a8 ∨ ov.ownBlock = some b
  own : ∀ b, ov'.ownBlock = some b → ov.ownBlock = some b ∨ w.heap.size ≤ b
theorem FC.refl (w : World) (B : FB) (ov : Value) : FC w w B ov ov := ⟨Fr.refl _ _, fun _ h => Or.inl h⟩
theorem FC.trans {w w1 w2 : World} {B : FB} {ov ov1 ov2 : Value} (h : FC w w1 B ov ov1) (k : FC w1 w2 B ov1 ov2) : FC w w2 B ov ov2 := by
  refine ⟨h.fr.trans k.fr fun b hb => ?_, fun b hb => ?_⟩
  · rcases hb with hb | hb | hb | hb | hb
    · exact Or.inl (Or.inl hb)
    · exact Or.inl (Or.inr (Or.inl hb))
    · exact Or.inl (Or.inr (Or.inr (Or.inl hb)))
    · exact Or.inl (Or.inr (Or.inr (Or.inr (Or.inl hb))))
    · exact (h.own b hb).imp (fun h => Or.inr (Or.inr (Or.inr (Or.inr h)))) id
  · rcases k.own b hb with hb | hb
    · exact h.own b hb
    · exact Or.inr (Nat.le_trans h.fr.size hb)
theorem FC.below {w w' : World} (B : FB) (ov : Value) (hb : RowKit.Below w.heap.size w w') : FC w w' B ov ov := ⟨Fr.of_below hb _, fun _ h => Or.inl h⟩
theorem TR.keep {w w' : World} {g : Nat} {A : Option Addr} {c : Nat} {ls : List LK} {U : Nat → Prop} (h : TR w g A c ls) (hf : Fr w w' U) (hg : ¬ U g) (hA : ∀ b, A = some ⟨b, 0, none⟩ → ls.length = 0 ∨ ¬ U b) : TR w' g A c ls := by
  refine ⟨h.blk.keep hf hg, fun i l hi => ?_, h.ok, h.few, h.le⟩
  obtain ⟨b, e, hc⟩ := h.row i l hi
  refine ⟨b, e, hc.block (hf.block b hc.lt ?_)⟩
  rcases hA b e with h0 | h0
  · have := (List.getElem?_eq_some_iff.1 hi).1
    omega
  · exact h0
theorem ob {x n c b : Nat} (e : (Value.slice (some ⟨x, 0, none⟩) n c).ownBlock = some b) : b = x := (Option.some.inj e).symm
theorem FX.keep {w w' : World} {B : FB} {ls : List LK} {U : Nat → Prop} (h : FX w B ls) (hf : Fr w w' U) (hU : ∀ b, U b → b = B.a1 ∨ b = B.a2 ∨ b = B.nb ∨ b = B.a8 ∨ B.a6 < b) : FX w' B ls := by
  obtain ⟨o1, o2, o3, o4, o5, o6, o7, o8, o9, og, o0, o2'⟩ := h.ord
  have k : ∀ {a : Nat}, a ≠ B.a1 → a ≠ B.a2 → a ≠ B.nb → a ≠ B.a8 → a ≤ B.a6 → ¬ U a := fun h1 h2 h3 h4 h5 hu => by
    rcases hU _ hu with h | h | h | h | h <;> omega
  refine ⟨h.bn.keep hf (k (by omega) (by omega) (by omega) (by omega) (by omega)), h.bt.keep hf (k (by omega) (by omega) (by omega) (by omega) (by omega)), h.bl.keep hf (k (by omega) (by omega) (by omega) (by omega) (by omega)),
    h.ol.keep hf (fun b e => k (by have e' := ob e; omega) (by have e' := ob e; omega) (by have e' := ob e; omega) (by have e' := ob e; omega) (by have e' := ob e; omega)), h.bf.keep hf (k (by omega) (by omega) (by omega) (by omega) (by omega)), h.bc.keep hf (k (by omega) (by omega) (by omega) (by omega) (by omega)),
    h.b9.keep hf (k (by omega) (by omega) (by omega) (by omega) (by omega)), h.tr.keep hf (k (by omega) (by omega) (by omega) (by omega) (by omega)) (fun b e => ?_), h.tb, h.gw.keep hf (fun b hb => by rcases hU b hb with h | h | h | h | h <;> omega), h.ord⟩
  rcases h.tb b e with h0 | h0
  · exact Or.inl h0
  · exact Or.inr (k (by omega) (by omega) (by omega) (by omega) (by omega))
theorem FX.up {w w' : World} {B : FB} {ls : List LK} (h : FX w B ls) (hb : RowKit.Below w.heap.size w w') : FX w' B ls := h.keep (Fr.of_below hb No) fun _ h => h.elim
theorem FS.up {w w' : World} {B : FB} {ls : List LK} {ov : Value} {s : FSt} (h : FS w B ls ov s) (hb : RowKit.Below w.heap.size w w') : FS w' B ls ov s :=
  ⟨h.fx.up hb, h.bm.below hb h.bm.lt, h.bo.below hb h.bo.lt, h.oo.up hb, h.on_.up hb, h.bv.below hb h.bv.lt, h.new, h.nl, h.ol_, h.om, h.mm, h.vv⟩
theorem fr1 (w : World) (a i : Nat) (u : Value) : Fr w (w.setCell ⟨a, i, none⟩ u) fun b => b = a := fr_set (Fr.refl _ _) i u
/-- how many were met -/
theorem FS.setM {w : World} {B : FB} {ls : List LK} {ov : Value} {s : FSt} (h : FS w B ls ov s) (m : Nat) (h1 : s.O.length ≤ m) (h2 : m ≤ 16384) : FS (w.setCell ⟨B.a1, 0, none⟩ (.int .i64 (m : Int))) B ls ov { s with m := m } ∧ FC w (w.setCell ⟨B.a1, 0, none⟩ (.int .i64 (m : Int))) B ov ov := by
  have hf := fr1 w B.a1 0 (.int .i64 (m : Int))
  obtain ⟨o1, o2, o3, o4, o5, o6, o7, o8, o9, og, o0, o2'⟩ := h.fx.ord
  exact ⟨⟨h.fx.keep hf fun b e => Or.inl e, h.bm.set_ 0 _, h.bo.keep hf (by omega), h.oo.keep hf (fun b e => by have := h.new b e; omega), h.on_.keep hf (fun b e => by have e' := ob e; omega), h.bv.keep hf (by omega), h.new, h.nl, h.ol_, h1, h2, h.vv⟩, hf.mono fun b _ e => Or.inl e, fun b e => Or.inl e⟩
theorem FS.setN {w : World} {B : FB} {ls : List LK} {ov : Value} {s : FSt} (h : FS w B ls ov s) (i y : Nat) (hi : i < ls.length) :
    w.frozen? ⟨B.nb, i, none⟩ = false ∧ w.cell? ⟨B.nb, i, none⟩ = some (.int .i64 ((s.N.getD i 0 : Nat) : Int)) ∧ FS (w.setCell ⟨B.nb, i, none⟩ (.int .i64 (y : Int))) B ls ov { s with N := s.N.set i y } ∧ FC w (w.setCell ⟨B.nb, i, none⟩ (.int .i64 (y : Int))) B ov ov := by
  have hf := fr1 w B.nb i (.int .i64 (y : Int))
  have hx : s.N[i]? = some (s.N.getD i 0) := by rw [List.getD_eq_getElem?_getD, List.getElem?_eq_getElem (by rw [h.nl]; exact hi)]; rfl
  obtain ⟨h1, h2, h3⟩ := ints_set h.on_ h.nl hi y hx
  obtain ⟨o1, o2, o3, o4, o5, o6, o7, o8, o9, og, o0, o2'⟩ := h.fx.ord
  exact ⟨h2, h1, ⟨h.fx.keep hf fun b e => Or.inr (Or.inr (Or.inl e)), h.bm.keep hf (by omega), h.bo.keep hf (by omega), h.oo.keep hf (fun b e => by have := h.new b e; omega), h3, h.bv.keep hf (by omega), h.new, by rw [List.length_set]; exact h.nl, h.ol_, h.om, h.mm, h.vv⟩, hf.mono fun b _ e => Or.inr (Or.inr (Or.inl e)), fun b e => Or.inl e⟩
theorem FS.setV {w : World} {B : FB} {ls : List LK} {ov : Value} {s : FSt} (h : FS w B ls ov s) (v : Nat) (h1 : v < 4294967296) : FS (w.setCell ⟨B.a8, 0, none⟩ (.int .u32 (v : Int))) B ls ov { s with v := v } ∧ FC w (w.setCell ⟨B.a8, 0, none⟩ (.int .u32 (v : Int))) B ov ov := by
  have hf := fr1 w B.a8 0 (.int .u32 (v : Int))
  obtain ⟨o1, o2, o3, o4, o5, o6, o7, o8, o9, og, o0, o2'⟩ := h.fx.ord
  exact ⟨⟨h.fx.keep hf fun b e => Or.inr (Or.inr (Or.inr (Or.inl e))), h.bm.keep hf (by omega), h.bo.keep hf (by omega), h.oo.keep hf (fun b e => by have := h.new b e; omega), h.on_.keep hf (fun b e => by have e' := ob e; omega), h.bv.set_ 0 _, h.new, h.nl, h.ol_, h.om, h.mm, h1⟩, hf.mono fun b _ e => Or.inr (Or.inr (Or.inr (Or.inl e))), fun b e => Or.inl e⟩
/-- another row of open places, which stands in a world where only the old row has changed -/
theorem FS.setO {w w1 : World} {B : FB} {ls : List LK} {ov ov' : Value} {s : FSt} {O : List Nat} (h : FS w B ls ov s) (hf1 : Fr w w1 fun b => ov.ownBlock = some b) (ho : OwR w1 3 1 nf ov' O) (hb : ∀ b, ov'.ownBlock = some b → ov.ownBlock = some b ∨ w.heap.size ≤ b) (hO : ∀ x ∈ O, x < ls.length) (hl : O.length ≤ s.m) :
    FS (w1.setCell ⟨B.a2, 0, none⟩ ov') B ls ov' { s with O := O } ∧ FC w (w1.setCell ⟨B.a2, 0, none⟩ ov') B ov ov' ∧ Blk w1 B.a2 61 #[ov] := by
  have hf2 := fr1 w1 B.a2 0 ov'
  obtain ⟨o1, o2, o3, o4, o5, o6, o7, o8, o9, og, o0, o2'⟩ := h.fx.ord
  have hnew : ∀ b, ov'.ownBlock = some b → B.a6 < b := fun b e => by
    rcases hb b e with e | e
    · exact h.new b e
    · have := h.fx.bf.lt; omega
  have hf : Fr w (w1.setCell ⟨B.a2, 0, none⟩ ov') fun b => b = B.a2 ∨ ov.ownBlock = some b := (hf1.mono fun b _ e => Or.inr e).same (hf2.mono fun b _ e => Or.inl e)
  have hk : ∀ {a : Nat}, a ≠ B.a2 → a ≤ B.a6 → ¬ (a = B.a2 ∨ ov.ownBlock = some a) := fun h1 h2 hu => by
    rcases hu with hu | hu
    · exact h1 hu
    · have := h.new _ hu; omega
  have hb2 : Blk w1 B.a2 61 #[ov] := h.bo.keep hf1 fun e => by have := h.new _ e; omega
  exact ⟨⟨h.fx.keep hf (fun b e => e.elim (fun e => Or.inr (Or.inl e)) fun e => Or.inr (Or.inr (Or.inr (Or.inr (h.new b e))))), h.bm.keep hf (hk (by omega) (by omega)), hb2.set_ 0 _, ho.keep hf2 (fun b e e' => by have := hnew b e; omega), h.on_.keep hf (fun b e => by have e' := ob e; subst e'; exact hk (by omega) (by omega)), h.bv.keep hf (hk (by omega) (by omega)), hnew, h.nl, hO, hl, h.mm, h.vv⟩,
    ⟨hf.mono fun b _ e => e.elim (fun e => Or.inr (Or.inl e)) fun e => Or.inr (Or.inr (Or.inr (Or.inr e))), hb⟩, hb2⟩
/-- a shorter slice of the same row -/
theorem OwR.cut {α : Type} {f : α → List Value} {k : Nat} {w : World} {e : TypeId} {b n c : Nat} {l : List α} (h : OwR w e k f (.slice (some ⟨b, 0, none⟩) n c) l) (hk : ∀ x, (f x).length = k) {m : Nat} (hm : m ≤ l.length) : OwR w e k f (.slice (some ⟨b, 0, none⟩) m c) (l.take m) := by
  have hl : (l.take m).length = m := by rw [List.length_take]; omega
  rcases h.2 with ⟨e', _⟩ | ⟨g, cap, cur, e', h0, hg, hc, hm', hcs, ht⟩
  · cases e'
  · injection e' with e1 e2 e3
    injection e1 with e1
    injection e1 with e1
    subst e1 e3 e2
    unfold OwR
    rw [hl]
    have hle : m * k ≤ l.length * k := Nat.mul_le_mul_right k hm
    refine ⟨by rw [flat_len hk, hl], Or.inr ⟨b, c, cur, rfl, h0, hg, Nat.le_trans hm hc, hm', hcs, ?_⟩⟩
    have h1 : cur.toList.take (m * k) = (l.flatMap f).take (m * k) := by rw [← ht, List.take_take, Nat.min_eq_left hle]
    rw [h1]
    have h2 : l.flatMap f = (l.take m).flatMap f ++ (l.drop m).flatMap f := by rw [← List.flatMap_append, List.take_append_drop]
    have h3 : ((l.take m).flatMap f).length = m * k := by rw [flat_len hk, hl]
    rw [h2, List.take_append_of_le_length (by rw [h3]; exact Nat.le_refl _), List.take_of_length_le (by rw [h3]; exact Nat.le_refl _)]
theorem closeM_snoc (ls : List LK) (many : Bool) (p : Nat) : ∀ (l : List Nat) (s : FSt), closeM ls many (l ++ [p]) s = { closeM ls many l s with N := (closeM ls many l s).N.set p closedN, v := if many = true then max (closeM ls many l s).v (ls.getD p okz).t else (closeM ls many l s).v }
  | [], s => rfl
  | q :: r, s => by rw [List.cons_append, closeM, closeM_snoc ls many p r, closeM]
theorem closeM_take {ls : List LK} {many : Bool} {l : List Nat} {j p : Nat} (h : l[j]? = some p) (s : FSt) : closeM ls many (l.take (j + 1)) s = { closeM ls many (l.take j) s with N := (closeM ls many (l.take j) s).N.set p closedN, v := if many = true then max (closeM ls many (l.take j) s).v (ls.getD p okz).t else (closeM ls many (l.take j) s).v } := by
  obtain ⟨hj, e⟩ := List.getElem?_eq_some_iff.1 h
  rw [List.take_succ_eq_append_getElem hj, e, closeM_snoc]
end Go.Proofs.YtlblgfpafdfilaaDoor
