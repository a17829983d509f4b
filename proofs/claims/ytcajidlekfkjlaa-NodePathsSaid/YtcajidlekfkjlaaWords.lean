/-
WORDS FOR MEMORY: bytes that a slice reads as, blocks that are known whole, rows of the call's own, what a call may have changed; and append onto a row of the call's own.
-/
import Derived.Test.YtcajidlekfkjlaaRows
import Derived.Test.YtcajidlekfkjlaaMath
import Derived.WalkKit
import Derived.WalkLawsBesides
import Derived.WalkSpells
import Derived.OpenShut
import Derived.Deep.Draws
import Derived.Laws.OwnMore
import Derived.Deep.AppendLies
import Derived.Maps.AppendAt
import Derived.Lib.AppendStr
import Derived.Lib.Hide
namespace Go.Proofs.Ytcajidlekfkjlaa
open Go.RowKit

set_option maxRecDepth 100000 in
theorem block_of_add (a : Addr) (n : Nat) : (a.add n).block = a.block := by unfold Addr.add; split <;> rfl
set_option maxRecDepth 100000 in
theorem add_of_add (a : Addr) (i j : Nat) : (a.add i).add j = a.add (i + j) := by
  unfold Addr.add
  by_cases hi : i = 0 <;> by_cases hj : j = 0 <;> simp [hi, hj, Nat.add_assoc]
set_option maxRecDepth 100000 in
theorem add_head (g j : Nat) : (⟨g, 0, none⟩ : Addr).add j = ⟨g, j, none⟩ := by
  unfold Addr.add
  split
  · rename_i h0; rw [h0]
  · simp

/-- the bytes as cells -/
def u8s (l : List Nat) : List Value := l.map fun x : Nat => .int .u8 (x : Int)
set_option maxRecDepth 100000 in
theorem u8s_length (l : List Nat) : (u8s l).length = l.length := by simp [u8s]
set_option maxRecDepth 100000 in
theorem u8s_append (l m : List Nat) : u8s (l ++ m) = u8s l ++ u8s m := by simp [u8s]
set_option maxRecDepth 100000 in
theorem u8s_one (l : List Nat) : ∀ u ∈ u8s l, u.oneCell' = true := by
  intro u hu
  simp only [u8s, List.mem_map] at hu
  obtain ⟨x, _, rfl⟩ := hu
  rfl
set_option maxRecDepth 100000 in
theorem u8s_at (l : List Nat) (j : Nat) (h : j < l.length) : (u8s l)[j]? = some (.int .u8 ((l.getD j 0 : Nat) : Int)) := by
  simp [u8s, h]

/-! ### What has changed -/
/-- Of the blocks that were there none has changed but those of S. -/
structure Fr (w w' : World) (S : Nat → Prop) : Prop where
  os : w'.os = w.os
  tape : w'.tape = w.tape
  output : w'.output = w.output
  size : w.heap.size ≤ w'.heap.size
  block : ∀ b, b < w.heap.size → ¬ S b → w'.heap[b]? = w.heap[b]?
def No : Nat → Prop := fun _ => False
section
variable {a w w' : World} {S T : Nat → Prop}
set_option maxRecDepth 100000 in
theorem Fr.refl (w : World) (S : Nat → Prop) : Fr w w S := ⟨rfl, rfl, rfl, Nat.le_refl _, fun _ _ _ => rfl⟩
set_option maxRecDepth 100000 in
theorem Fr.mono (h : Fr w w' S) (hS : ∀ b, b < w.heap.size → S b → T b) : Fr w w' T := ⟨h.os, h.tape, h.output, h.size, fun b hb hn => h.block b hb fun hs => hn (hS b hb hs)⟩
set_option maxRecDepth 100000 in
theorem Fr.trans (h : Fr a w S) (k : Fr w w' T) (hT : ∀ b, T b → S b ∨ a.heap.size ≤ b) : Fr a w' S :=
  ⟨k.os.trans h.os, k.tape.trans h.tape, k.output.trans h.output, Nat.le_trans h.size k.size, fun b hb hn =>
    (k.block b (Nat.lt_of_lt_of_le hb h.size) fun ht => (hT b ht).elim hn (by omega)).trans (h.block b hb hn)⟩
set_option maxRecDepth 100000 in
theorem Fr.same (h : Fr a w S) (k : Fr w w' S) : Fr a w' S := h.trans k fun _ hb => Or.inl hb
set_option maxRecDepth 100000 in
theorem Fr.drew (h : Fr a w S) : Fr a w.drew S := ⟨h.os, h.tape, h.output, h.size, h.block⟩
set_option maxRecDepth 100000 in
theorem Fr.drewN (h : Fr a w S) (n : Nat) : Fr a (w.drewN n) S := ⟨h.os, h.tape, h.output, h.size, h.block⟩
set_option maxRecDepth 100000 in
theorem Fr.alloc (h : Fr a w S) (o : Obj) : Fr a (w.alloc o) S :=
  ⟨h.os, h.tape, h.output, Nat.le_trans h.size (by simp), fun b hb hn => (Below.heap_alloc w o b (Nat.lt_of_lt_of_le hb h.size)).trans (h.block b hb hn)⟩
set_option maxRecDepth 100000 in
theorem Fr.setCell (h : Fr a w S) {p : Addr} (hp : S p.block ∨ a.heap.size ≤ p.block) (u : Value) : Fr a (w.setCell p u) S :=
  ⟨h.os, h.tape, h.output, by simpa [World.setCell] using h.size, fun b hb hn => (Below.heap_setCell w p u b (by
    rintro rfl
    rcases hp with hp | hp
    · exact hn hp
    · omega)).trans (h.block b hb hn)⟩
set_option maxRecDepth 100000 in
theorem Fr.grown {row : Option Nat} (h : Fr a w S) (hg : w.grownBy w' row) (hr : ∀ k, row = some k → S k ∨ a.heap.size ≤ k) : Fr a w' S :=
  h.trans (T := fun b => some b = row) ⟨hg.os, hg.tape, hg.output, hg.size, fun b hb hn => hg.block b hb hn⟩ fun b hb => hr b hb.symm
set_option maxRecDepth 100000 in
theorem Fr.below {B : Nat} (h : Fr w w' S) (hS : ∀ b, S b → B ≤ b) (hB : B ≤ w.heap.size) : Below B w w' :=
  ⟨h.os, h.tape, h.output, h.size, fun b hb => h.block b (by omega) fun hs => by have := hS b hs; omega⟩
set_option maxRecDepth 100000 in
theorem Fr.of_below (h : Below w.heap.size w w') (S : Nat → Prop) : Fr w w' S := ⟨h.os, h.tape, h.output, h.size, fun b hb _ => h.block b hb⟩
set_option maxRecDepth 100000 in
theorem Fr.no_below (h : Fr w w' No) : Below w.heap.size w w' := h.below (fun _ hb => hb.elim) (Nat.le_refl _)
end

/-! ### A block that is known whole -/
def Blk (w : World) (g : Nat) (t : TypeId) (cs : Array Value) : Prop := w.heap[g]? = some (.cells cs t (0, 0))
section
variable {a w w' : World} {g : Nat} {t : TypeId} {cs : Array Value} {S : Nat → Prop}
set_option maxRecDepth 100000 in
theorem Blk.lt (h : Blk w g t cs) : g < w.heap.size := by
  rcases Nat.lt_or_ge g w.heap.size with hlt | hge
  · exact hlt
  · unfold Blk at h; rw [Array.getElem?_eq_none hge] at h; cases h
set_option maxRecDepth 100000 in
theorem Blk.cell (h : Blk w g t cs) (i : Nat) : w.cell? ⟨g, i, none⟩ = cs[i]? := cell_of_row w g i cs t (0, 0) h
set_option maxRecDepth 100000 in
theorem Blk.frozen (h : Blk w g t cs) (i : Nat) : w.frozen? ⟨g, i, none⟩ = false := by
  unfold Blk at h
  simp [World.frozen?, h]
set_option maxRecDepth 100000 in
theorem Blk.new (w : World) (t : TypeId) (cs : Array Value) : Blk (w.alloc (.cells cs t)) w.heap.size t cs := heap_alloc_new w _
set_option maxRecDepth 100000 in
theorem Blk.drew (h : Blk w g t cs) : Blk w.drew g t cs := h
set_option maxRecDepth 100000 in
theorem Blk.drewN (h : Blk w g t cs) (n : Nat) : Blk (w.drewN n) g t cs := h
set_option maxRecDepth 100000 in
theorem Blk.alloc (h : Blk w g t cs) (o : Obj) : Blk (w.alloc o) g t cs := (Below.heap_alloc w o g h.lt).trans h
set_option maxRecDepth 100000 in
theorem Blk.set_ (h : Blk w g t cs) (i : Nat) (u : Value) : Blk (w.setCell ⟨g, i, none⟩ u) g t (cs.setIfInBounds i u) := by
  unfold Blk at h ⊢
  simp [World.setCell, Array.getElem?_modify, h]
set_option maxRecDepth 100000 in
theorem Blk.far (h : Blk w g t cs) {p : Addr} (hp : g ≠ p.block) (u : Value) : Blk (w.setCell p u) g t cs := (Below.heap_setCell w p u g hp).trans h
set_option maxRecDepth 100000 in
theorem Blk.keep (h : Blk w g t cs) (hf : Fr w w' S) (hg : ¬ S g) : Blk w' g t cs := (hf.block g h.lt hg).trans h
set_option maxRecDepth 100000 in
theorem Blk.below {B : Nat} (h : Blk w g t cs) (hb : Below B w w') (hg : g < B) : Blk w' g t cs := (hb.block g hg).trans h
set_option maxRecDepth 100000 in
theorem Blk.grown {row : Option Nat} (h : Blk w g t cs) (hb : w.grownBy w' row) (hg : some g ≠ row) : Blk w' g t cs := (hb.block g h.lt hg).trans h
set_option maxRecDepth 100000 in
theorem Blk.ne_ {g' : Nat} {t' : TypeId} {cs' : Array Value} (h : Blk w g t cs) (h' : Blk w g' t' cs') (hne : t ≠ t') : g ≠ g' := by
  rintro rfl
  unfold Blk at h h'
  rw [h] at h'
  injection h' with h'
  injection h' with _ ht
  exact hne ht
set_option maxRecDepth 100000 in
theorem Blk.own_ne {base : Nat} {e : TypeId} {size n : Nat} {v : Value} {xs : List Value} (hg : Blk w g t cs) (h : w.ownsRow base e size v n xs) (hne : e ≠ t) : some g ≠ v.ownBlock := by
  rcases h.2 with ⟨rfl, _⟩ | ⟨g', cap, cur, rfl, _, hh, _⟩
  · simp [Value.ownBlock]
  · intro he
    have : g = g' := by simpa [Value.ownBlock] using he
    subst this
    exact Blk.ne_ (t := e) hh hg hne rfl
end

/-! ### Bytes in memory -/
/-- The slice value '.slice A n c' reads as the bytes l; they lie in one of the blocks of S. -/
def RB (w : World) (S : Nat → Prop) (A : Option Addr) (n : Nat) (l : List Nat) : Prop :=
  l.length = n ∧ (∀ x ∈ l, x < 256) ∧ (0 < n → ∃ ad, A = some ad ∧ ad.block < w.heap.size ∧ S ad.block ∧ ∀ j, j < n → w.cell? (ad.add j) = some (.int .u8 ((l.getD j 0 : Nat) : Int)))
section
variable {w w' : World} {A : Option Addr} {n : Nat} {l : List Nat} {S T : Nat → Prop}
set_option maxRecDepth 100000 in
theorem RB.len (h : RB w S A n l) : l.length = n := h.1
set_option maxRecDepth 100000 in
theorem RB.lt (h : RB w S A n l) : ∀ x ∈ l, x < 256 := h.2.1
set_option maxRecDepth 100000 in
theorem RB.nil_ : RB w S A 0 [] := ⟨rfl, by simp, fun h => absurd h (by omega)⟩
set_option maxRecDepth 100000 in
theorem RB.at_ (h : RB w S A n l) {k : Nat} (hk : k < n) : ∃ ad, A = some ad ∧ l.getD k 0 < 256 ∧ w.cell? (ad.add k) = some (.int .u8 ((l.getD k 0 : Nat) : Int)) := by
  obtain ⟨h1, h2, h3⟩ := h
  obtain ⟨ad, e, _, _, hc⟩ := h3 (by omega)
  refine ⟨ad, e, ?_, hc k hk⟩
  have hl : k < l.length := by omega
  have e2 : l.getD k 0 = l[k] := by simp [hl]
  rw [e2]
  exact h2 _ (List.getElem_mem _)
set_option maxRecDepth 100000 in
theorem RB.move (h : RB w S A n l) (hs : w.heap.size ≤ w'.heap.size) (hk : ∀ p : Addr, p.block < w.heap.size → S p.block → w'.cell? p = w.cell? p) : RB w' S A n l := by
  obtain ⟨h1, h2, h3⟩ := h
  refine ⟨h1, h2, fun hn => ?_⟩
  obtain ⟨ad, e, hb, hS, hc⟩ := h3 hn
  exact ⟨ad, e, by omega, hS, fun j hj => (hk _ (by rw [block_of_add]; exact hb) (by rw [block_of_add]; exact hS)).trans (hc j hj)⟩
set_option maxRecDepth 100000 in
theorem RB.keep (h : RB w S A n l) (hf : Fr w w' T) (hd : ∀ b, S b → ¬ T b) : RB w' S A n l := h.move hf.size fun _ hp hS => World.cell?_of_block (hf.block _ hp (hd _ hS))
set_option maxRecDepth 100000 in
theorem RB.mono (h : RB w S A n l) (hd : ∀ b, b < w.heap.size → S b → T b) : RB w T A n l := by
  obtain ⟨h1, h2, h3⟩ := h
  refine ⟨h1, h2, fun hn => ?_⟩
  obtain ⟨ad, e, hb, hS, hc⟩ := h3 hn
  exact ⟨ad, e, hb, hd _ hb hS, hc⟩
set_option maxRecDepth 100000 in
/-- bytes that were there below B -/
theorem RB.below {B : Nat} (h : RB w S A n l) (hb : Below B w w') (hS : ∀ b, S b → b < B) : RB w' S A n l := h.move hb.size fun _ _ hs => hb.cell (hS _ hs)
set_option maxRecDepth 100000 in
theorem RB.drew (h : RB w S A n l) : RB w.drew S A n l := h
set_option maxRecDepth 100000 in
theorem RB.drewN (h : RB w S A n l) (k : Nat) : RB (w.drewN k) S A n l := h
set_option maxRecDepth 100000 in
theorem RB.alloc (h : RB w S A n l) (o : Obj) : RB (w.alloc o) S A n l := h.move (by simp) fun p hp _ => World.cell?_alloc_lt w o p hp
set_option maxRecDepth 100000 in
theorem RB.far (h : RB w S A n l) {p : Addr} (hp : ¬ S p.block) (u : Value) : RB (w.setCell p u) S A n l :=
  h.move (by simp) fun q _ hS => World.cell?_setCell_other w p q u (fun e => by subst e; exact hp hS)
set_option maxRecDepth 100000 in
/-- the first k bytes -/
theorem RB.take (h : RB w S A n l) {k : Nat} (hk : k ≤ n) : RB w S A k (l.take k) := by
  obtain ⟨h1, h2, h3⟩ := h
  refine ⟨by simp; omega, fun x hx => h2 x (List.mem_of_mem_take hx), fun hn => ?_⟩
  obtain ⟨ad, e, hb, hS, hc⟩ := h3 (by omega)
  refine ⟨ad, e, hb, hS, fun j hj => ?_⟩
  rw [hc j (by omega)]
  simp [hj]
set_option maxRecDepth 100000 in
/-- from byte k on -/
theorem RB.drop (h : RB w S A n l) {k c : Nat} (hk : k ≤ n) (hc : n ≤ c) : RB w S (if c = k then A else A.map (·.add k)) (n - k) (l.drop k) := by
  obtain ⟨h1, h2, h3⟩ := h
  refine ⟨by simp; omega, fun x hx => h2 x (List.mem_of_mem_drop hx), fun hn => ?_⟩
  obtain ⟨ad, rfl, hb, hS, hcell⟩ := h3 (by omega)
  rw [if_neg (by omega)]
  refine ⟨ad.add k, rfl, by rw [block_of_add]; exact hb, by rw [block_of_add]; exact hS, fun j hj => ?_⟩
  rw [add_of_add, hcell _ (by omega)]
  simp
set_option maxRecDepth 100000 in
theorem RB.of_blk {g : Nat} (h : Blk w g 5 (u8s l).toArray) (hS : S g) (hl : ∀ x ∈ l, x < 256) (hn : l.length = n) : RB w S (some ⟨g, 0, none⟩) n l := by
  refine ⟨hn, hl, fun _ => ⟨_, rfl, h.lt, hS, fun j hj => ?_⟩⟩
  rw [add_head, h.cell j]
  subst hn
  simp [u8s, hj]
set_option maxRecDepth 100000 in
theorem RB.cells {ad : Addr} (h : RB w S (some ad) n l) : ∀ j u, (u8s l)[j]? = some u → w.cell? (ad.add j) = some u := by
  obtain ⟨h1, h2, h3⟩ := h
  intro j u hj
  have hjl : j < l.length := by
    rcases Nat.lt_or_ge j l.length with h | h
    · exact h
    · simp [u8s, List.getElem?_eq_none h] at hj
  obtain ⟨ad', e, _, _, hc⟩ := h3 (by omega)
  cases e
  rw [hc j (by omega)]
  rw [u8s_at l j hjl] at hj
  exact hj
end

/-! ### A row of the call's own -/
/-- v is a slice of n bytes, the row of l; its block, if it has one, is one of S. -/
def Ow (w : World) (S : Nat → Prop) (v : Value) (n : Nat) (l : List Nat) : Prop :=
  w.ownsRow 0 5 1 v n (u8s l) ∧ (∀ x ∈ l, x < 256) ∧ ∀ k, v.ownBlock = some k → S k
section
variable {w w' : World} {v : Value} {n : Nat} {l : List Nat} {S T : Nat → Prop}
set_option maxRecDepth 100000 in
theorem Ow.len (h : Ow w S v n l) : l.length = n := by simpa [u8s] using h.1.1
set_option maxRecDepth 100000 in
theorem Ow.nil_ (w : World) (S : Nat → Prop) : Ow w S (.slice none 0 0) 0 [] := ⟨World.ownsRow_nil w 0 5 1, by simp, fun k hk => by simp [Value.ownBlock] at hk⟩
set_option maxRecDepth 100000 in
theorem Ow.made (w : World) (S : Nat → Prop) (hS : S w.heap.size) : Ow (w.alloc (.cells #[] 5)) S (.slice (some ⟨w.heap.size, 0, none⟩) 0 0) 0 [] :=
  ⟨World.ownsRow_made (e := 5) (size := 1) w #[] 0 (Nat.zero_le _) (by simp [maxLen]) (by simp), by simp, fun k hk => by simp [Value.ownBlock] at hk; subst hk; exact hS⟩
set_option maxRecDepth 100000 in
theorem Ow.mono (h : Ow w S v n l) (hd : ∀ b, b < w.heap.size → S b → T b) : Ow w T v n l := ⟨h.1, h.2.1, fun k hk => hd k (h.1.lt k hk).2 (h.2.2 k hk)⟩
set_option maxRecDepth 100000 in
theorem Ow.keep (h : Ow w S v n l) (hf : Fr w w' T) (hd : ∀ b, S b → ¬ T b) : Ow w' S v n l := by
  obtain ⟨⟨h1, h2⟩, h3, h4⟩ := h
  refine ⟨⟨h1, ?_⟩, h3, h4⟩
  rcases h2 with h2 | ⟨g, cap, cur, hv, hg, hh, r⟩
  · exact Or.inl h2
  · exact Or.inr ⟨g, cap, cur, hv, hg, (hf.block g (Blk.lt hh) (hd g (h4 g (by rw [hv]; rfl)))).trans hh, r⟩
set_option maxRecDepth 100000 in
theorem Ow.drew (h : Ow w S v n l) : Ow w.drew S v n l := h
set_option maxRecDepth 100000 in
theorem Ow.drewN (h : Ow w S v n l) (k : Nat) : Ow (w.drewN k) S v n l := h
set_option maxRecDepth 100000 in
theorem Ow.alloc (h : Ow w S v n l) (o : Obj) : Ow (w.alloc o) S v n l := ⟨h.1.alloc o, h.2.1, h.2.2⟩
set_option maxRecDepth 100000 in
/-- a store into a block of another type -/
theorem Ow.far (h : Ow w S v n l) {g i : Nat} {t : TypeId} {cs : Array Value} (hg : Blk w g t cs) (ht : (5 : TypeId) ≠ t) (u : Value) : Ow (w.setCell ⟨g, i, none⟩ u) S v n l := by
  have hne := hg.own_ne h.1 ht
  obtain ⟨⟨h1, h2⟩, h3, h4⟩ := h
  refine ⟨⟨h1, ?_⟩, h3, h4⟩
  rcases h2 with h2 | ⟨g', cap, cur, rfl, hb, hh, r⟩
  · exact Or.inl h2
  · refine Or.inr ⟨g', cap, cur, rfl, hb, (Below.heap_setCell w _ u g' ?_).trans hh, r⟩
    rintro rfl
    exact hne rfl
set_option maxRecDepth 100000 in
theorem Ow.reads (h : Ow w S v n l) : ∃ A c, v = .slice A n c ∧ n ≤ c ∧ (A = none → c = 0) ∧ RB w S A n l := by
  obtain ⟨⟨h1, h2⟩, hl, hS⟩ := h
  have hn : l.length = n := by simpa [u8s] using h1
  rcases h2 with ⟨rfl, h0⟩ | ⟨g, cap, cur, rfl, _, hg, hc, _, hcur, htake⟩
  · subst h0
    have : l = [] := List.eq_nil_of_length_eq_zero hn
    subst this
    exact ⟨none, 0, rfl, Nat.le_refl _, fun _ => rfl, RB.nil_⟩
  · refine ⟨_, _, rfl, hc, (fun e => by cases e), hn, hl, fun _ => ⟨_, rfl, Blk.lt hg, hS g rfl, fun j hj => ?_⟩⟩
    rw [add_head, Blk.cell hg j]
    have hj2 := u8s_at l j (by omega)
    rw [← htake, List.getElem?_take_of_lt (by omega)] at hj2
    simpa using hj2
end

set_option maxRecDepth 100000 in
theorem info5 : (Try.prog.info? 5).map (fun i => (i.zero, i.size, i.bytes)) = some (some (.int .u8 0), 1, 1) := by kernel_rfl

/-! ### append onto a row of the call's own -/
section
variable {w : World} {S : Nat → Prop}
set_option maxRecDepth 100000 in
/-- of bytes that a slice reads as, nil let in -/
theorem run_app (ty : TypeId) (v : Value) (n : Nat) (l : List Nat) (h : Ow w S v n l) (T : Nat → Prop) (A : Option Addr) (m c : Nat) (k : List Nat) (hr : RB w T A m k) (hb : n + m ≤ 140737488351232) :
    ∃ v' w', (Builtin.append_ #[46, 46] ty #[v, .slice A m c]).run Try.prog w = .ok v' w' ∧ Ow w' (fun b => S b ∨ w.heap.size ≤ b) v' (n + m) (l ++ k) ∧ w.grownBy w' v.ownBlock := by
  obtain ⟨i0, hi, hz0, hz1, hz2⟩ := info_parts info5
  have hlt : ∀ x ∈ l ++ k, x < 256 := by
    intro x hx
    rcases List.mem_append.1 hx with hx | hx
    · exact h.2.1 x hx
    · exact hr.lt x hx
  rcases A with _ | ad
  · have hm : m = 0 := by
      rcases Nat.eq_zero_or_pos m with h0 | h0
      · exact h0
      · obtain ⟨_, e, _⟩ := hr.2.2 h0
        cases e
    subst hm
    have hk : k = [] := List.eq_nil_of_length_eq_zero hr.1
    subst hk
    refine ⟨v, w, ?_, by simpa using h.mono fun b _ hS => Or.inl hS, World.grownBy.refl w _⟩
    rcases h.1.2 with ⟨rfl, rfl⟩ | ⟨g, cap, cur, rfl, _, _, hnc, _⟩
    · simp [Builtin.append_, run_underlying Try.underlying46, sizeOf, typeInfo, hi, Builtin.lenOf, Builtin.firstCells]
    · simp [Builtin.append_, run_underlying Try.underlying46, sizeOf, typeInfo, hi, Builtin.lenOf, Builtin.firstCells, hnc, storeCells]
  · obtain ⟨v', w', h1, h2, h3, _, h5⟩ := run_append_own_at (P := Try.prog) w 0 46 ty 5 i0 (.int .u8 0) 1 1 Try.underlying46 hi hz0 hz1 hz2 rfl (by decide) v n (u8s l) h.1 ad m c (u8s k)
      (by rw [u8s_length, hr.len, Nat.mul_one]) hr.cells (u8s_one k) (by simp only [maxLen]; omega) (by omega) (Nat.zero_le _)
    rw [← u8s_append] at h2
    refine ⟨v', w', h1, ⟨h2, hlt, fun q hq => ?_⟩, h3⟩
    rcases h5 with h5 | h5
    · exact Or.inl (h.2.2 q (by rw [← h5]; exact hq))
    · rw [h5] at hq
      injection hq with hq
      exact Or.inr (by omega)
set_option maxRecDepth 100000 in
/-- of one byte, that lies in a block of its own -/
theorem one_rb (w : World) (x : Nat) (hx : x < 256) (T : Nat → Prop) (hT : T w.heap.size) : RB (w.alloc (.cells #[.int .u8 (x : Int)] 5)) T (some ⟨w.heap.size, 0, none⟩) 1 [x] :=
  RB.of_blk (l := [x]) (Blk.new w 5 _) hT (by simpa using hx) rfl

variable {ops : Array Oper} {rest : List Oper} {o : Oper} {a : Act} {Q : Exit → Act → World → Prop}
set_option maxRecDepth 100000 in
theorem wp_app {K : Act → World → Prop} (s x : Operand) (ho : o.op = .call { callee := .builtin .append, args := #[s, x], argTypes := #[46, 46] })
    (v : Value) (n : Nat) (l : List Nat) (hs : a.eval s = v) (h : Ow w S v n l) (T : Nat → Prop) (A : Option Addr) (m c : Nat) (k : List Nat) (hx : a.eval x = .slice A m c) (hr : RB w T A m k) (hb : n + m ≤ 140737488351232)
    (hK : ∀ v' w', Ow w' (fun b => S b ∨ w.heap.size ≤ b) v' (n + m) (l ++ k) → w.grownBy w' v.ownBlock → K (a.put o.dst v') w') : o.wp Try.prog a w K Q := by
  obtain ⟨v', w', hrun, h2, h3⟩ := run_app o.type v n l h T A m c k hr hb
  unfold Oper.wp execOp
  simp only [ho, resolve, invoke, builtin, Sem.run_bind, Sem.run_pure, Result.andThen_ok, List.map_toArray, List.map_cons, List.map_nil, hs, hx, hrun]
  exact hK v' w' h2 h3
set_option maxRecDepth 100000 in
theorem wpList_app (hgd : o.guard = none) (s x : Operand) (ho : o.op = .call { callee := .builtin .append, args := #[s, x], argTypes := #[46, 46] })
    (v : Value) (n : Nat) (l : List Nat) (hs : a.eval s = v) (h : Ow w S v n l) (T : Nat → Prop) (A : Option Addr) (m c : Nat) (k : List Nat) (hx : a.eval x = .slice A m c) (hr : RB w T A m k) (hb : n + m ≤ 140737488351232)
    (hK : ∀ v' w', Ow w' (fun b => S b ∨ w.heap.size ≤ b) v' (n + m) (l ++ k) → w.grownBy w' v.ownBlock → wpList Try.prog ops Q rest (a.put o.dst v') w') : wpList Try.prog ops Q (o :: rest) a w :=
  wpList_plain hgd fun _ hk => wp_app s x ho v n l hs h T A m c k hx hr hb fun v' w' h2 h3 => hk _ _ (hK v' w' h2 h3)
set_option maxRecDepth 100000 in
theorem step_app {K : Act → World → Prop} {E : Prop} (hgd : o.guard = none) (s x : Operand) (ho : o.op = .call { callee := .builtin .append, args := #[s, x], argTypes := #[46, 46] })
    (v : Value) (n : Nat) (l : List Nat) (hs : a.eval s = v) (h : Ow w S v n l) (T : Nat → Prop) (A : Option Addr) (m c : Nat) (k : List Nat) (hx : a.eval x = .slice A m c) (hr : RB w T A m k) (hb : n + m ≤ 140737488351232)
    (hK : ∀ v' w', Ow w' (fun b => S b ∨ w.heap.size ≤ b) v' (n + m) (l ++ k) → w.grownBy w' v.ownBlock → K (a.put o.dst v') w') : if Region.wanted o (yielded ops a.tmps) = true then Oper.wp Try.prog o a w K Q else E := by
  have hw : Region.wanted o (yielded ops a.tmps) = true := by simp [Region.wanted, hgd]
  rw [if_pos hw]
  exact wp_app s x ho v n l hs h T A m c k hx hr hb hK

set_option maxRecDepth 100000 in
/-- of a string's bytes -/
theorem run_app_str (ty : TypeId) (v : Value) (n : Nat) (l : List Nat) (h : Ow w S v n l) (s : ByteArray) (k : List Nat) (hk : Lib.strCells s = u8s k) (hkl : ∀ x ∈ k, x < 256) (hb : n + s.size ≤ 140737488351232) :
    ∃ v' w', (Builtin.append_ #[46, 9] ty #[v, .string s]).run Try.prog w = .ok v' w' ∧ Ow w' (fun b => S b ∨ w.heap.size ≤ b) v' (n + s.size) (l ++ k) ∧ w.grownBy w' v.ownBlock := by
  obtain ⟨i0, hi, hz0, hz1, hz2⟩ := info_parts info5
  have hlt : ∀ x ∈ l ++ k, x < 256 := by
    intro x hx
    rcases List.mem_append.1 hx with hx | hx
    · exact h.2.1 x hx
    · exact hkl x hx
  obtain ⟨v', w', h1, h2, h3, _⟩ := Lib.run_append_own_string (P := Try.prog) w 0 46 9 ty 5 i0 Try.underlying46 Try.underlying9 hi hz0 hz1 hz2 v n (u8s l) h.1 s (by simp only [maxLen]; omega) (by omega) (Nat.zero_le _)
  rw [hk, ← u8s_append] at h2
  refine ⟨v', w', h1, ⟨h2, hlt, fun q hq => ?_⟩, h3⟩
  -- where it lies: in the old row, or in the block that was just made
  have hat : v'.ownBlock = v.ownBlock ∨ v'.ownBlock = some w.heap.size := by
    rcases h.1.2 with ⟨rfl, rfl⟩ | ⟨g, cap, cur, rfl, _, hg, hnc, hcm, hcs, htake⟩
    · by_cases hm : s.size = 0
      · left
        have hf := Lib.run_firstCells_string (P := Try.prog) w 1 s
        rw [hm] at hf
        have e0 : (Builtin.append_ #[46, 9] ty #[.slice none 0 0, .string s]).run Try.prog w = .ok (.slice none 0 0) w := by
          have hn : Lib.strCells s = [] := List.eq_nil_of_length_eq_zero (by rw [Lib.strCells_length]; exact hm)
          simp [Builtin.append_, run_underlying Try.underlying46, run_underlying Try.underlying9, sizeOf, typeInfo, hi, hz1, Builtin.lenOf, hm, hf]
        rw [e0] at h1
        injection h1 with e1 e2
        rw [← e1]
      · right
        have hr := run_append_nil_string (P := Try.prog) w 46 9 ty 5 i0 (.int .u8 0) Try.underlying46 Try.underlying9 hi hz0 s (by omega) (by omega) (by rw [hz2]; omega)
        rw [hr] at h1
        injection h1 with e1 e2
        rw [← e1]
        rfl
    · by_cases hroom : n + s.size ≤ cap
      · left
        have hr := Lib.run_append_room_string (P := Try.prog) w 46 9 ty 5 i0 Try.underlying46 Try.underlying9 hi hz1 g n cap cur hg s hroom (by omega)
        rw [hr] at h1
        injection h1 with e1 e2
        rw [← e1]
        rfl
      · right
        have hxl : (u8s l).length = n := by simpa using h.1.1
        have holds : ∀ j u, (u8s l)[j]? = some u → w.cell? ((⟨g, 0, none⟩ : Addr).add j) = some u := h.1.cells (g := g) rfl
        have hr := Lib.run_append_grow_string (P := Try.prog) w 46 9 ty 5 i0 (.int .u8 0) Try.underlying46 Try.underlying9 hi hz0 ⟨g, 0, none⟩ n cap (u8s l) (by rw [hz1]; simpa using hxl) holds s (by omega) (by omega)
          (by rw [hz2]; exact growslice_fits (by omega) (by omega))
        rw [hr] at h1
        injection h1 with e1 e2
        rw [← e1]
        rfl
  rcases hat with hat | hat
  · exact Or.inl (h.2.2 q (by rw [← hat]; exact hq))
  · rw [hat] at hq
    injection hq with hq
    exact Or.inr (by omega)
set_option maxRecDepth 100000 in
theorem wpList_app_str (hgd : o.guard = none) (s x : Operand) (ho : o.op = .call { callee := .builtin .append, args := #[s, x], argTypes := #[46, 9] })
    (v : Value) (n : Nat) (l : List Nat) (hs : a.eval s = v) (h : Ow w S v n l) (t : ByteArray) (k : List Nat) (hx : a.eval x = .string t) (hk : Lib.strCells t = u8s k) (hkl : ∀ x ∈ k, x < 256) (hb : n + t.size ≤ 140737488351232)
    (hK : ∀ v' w', Ow w' (fun b => S b ∨ w.heap.size ≤ b) v' (n + t.size) (l ++ k) → w.grownBy w' v.ownBlock → wpList Try.prog ops Q rest (a.put o.dst v') w') : wpList Try.prog ops Q (o :: rest) a w := by
  refine wpList_plain hgd fun K hKK => ?_
  obtain ⟨v', w', hrun, h2, h3⟩ := run_app_str o.type v n l h t k hk hkl hb
  unfold Oper.wp execOp
  simp only [ho, resolve, invoke, builtin, Sem.run_bind, Sem.run_pure, Result.andThen_ok, List.map_toArray, List.map_cons, List.map_nil, hs, hx, hrun]
  exact hKK _ _ (hK v' w' h2 h3)
end
end Go.Proofs.Ytcajidlekfkjlaa
