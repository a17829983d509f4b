/-
WORDS FOR MEMORY: blocks that are known whole, what a call may have changed; locks, and the mathematics of locks.
-/
import Derived.Test.YtlblgfpafdfilaaDoorRows
import Derived.WalkKit
import Derived.WalkLawsBesides
import Derived.WalkSpells
import Derived.OpenShut
import Derived.Deep.Draws
import Derived.Laws.OwnMore
import Derived.Deep.AppendLies
import Derived.Maps.AppendAt
import Derived.Lib.Hide
import Derived.Lib.QuietBelow
import Derived.BigQuiet
import Derived.Deep.RegionHeld3
import Derived.Deep.MidRow
import Derived.Deep.Cut
import Derived.Deep.RegionLaw
import Derived.Deep.DeepCutAuto
import Derived.OrdersHeld
import Derived.Laws.EntriesVeiled
import Derived.Outline
import Derived.Handy
namespace Go.Proofs.YtlblgfpafdfilaaDoor
open Go.RowKit

set_option maxRecDepth 100000 in
theorem block_of_add (a : Addr) (n : Nat) : (a.add n).block = a.block := by unfold Addr.add; split <;> rfl
set_option maxRecDepth 100000 in
theorem add_of_add (a : Addr) (i j : Nat) : (a.add i).add j = a.add (i + j) := by
  unfold Addr.add
  by_cases hi : i = 0 <;> by_cases hj : j = 0 <;> simp [hi, hj, Nat.add_assoc]
set_option maxRecDepth 100000 in
theorem add_head (g j : Nat) : (⟨g, 0, none⟩ : Addr).add j = ⟨g, j, none⟩ := by
  unfold Addr.add
  split
  · rename_i h0; rw [h0]
  · simp

/-! ### What has changed -/
/-- Of the blocks that were there none has changed but those of S. -/
structure Fr (w w' : World) (S : Nat → Prop) : Prop where
  os : w'.os = w.os
  tape : w'.tape = w.tape
  output : w'.output = w.output
  size : w.heap.size ≤ w'.heap.size
  block : ∀ b, b < w.heap.size → ¬ S b → w'.heap[b]? = w.heap[b]?
def No : Nat → Prop := fun _ => False
section
variable {a w w' : World} {S T : Nat → Prop}
set_option maxRecDepth 100000 in
theorem Fr.refl (w : World) (S : Nat → Prop) : Fr w w S := ⟨rfl, rfl, rfl, Nat.le_refl _, fun _ _ _ => rfl⟩
set_option maxRecDepth 100000 in
theorem Fr.mono (h : Fr w w' S) (hS : ∀ b, b < w.heap.size → S b → T b) : Fr w w' T := ⟨h.os, h.tape, h.output, h.size, fun b hb hn => h.block b hb fun hs => hn (hS b hb hs)⟩
set_option maxRecDepth 100000 in
theorem Fr.trans (h : Fr a w S) (k : Fr w w' T) (hT : ∀ b, T b → S b ∨ a.heap.size ≤ b) : Fr a w' S :=
  ⟨k.os.trans h.os, k.tape.trans h.tape, k.output.trans h.output, Nat.le_trans h.size k.size, fun b hb hn =>
    (k.block b (Nat.lt_of_lt_of_le hb h.size) fun ht => (hT b ht).elim hn (by omega)).trans (h.block b hb hn)⟩
set_option maxRecDepth 100000 in
theorem Fr.same (h : Fr a w S) (k : Fr w w' S) : Fr a w' S := h.trans k fun _ hb => Or.inl hb
set_option maxRecDepth 100000 in
theorem Fr.drew (h : Fr a w S) : Fr a w.drew S := ⟨h.os, h.tape, h.output, h.size, h.block⟩
set_option maxRecDepth 100000 in
theorem Fr.drewN (h : Fr a w S) (n : Nat) : Fr a (w.drewN n) S := ⟨h.os, h.tape, h.output, h.size, h.block⟩
set_option maxRecDepth 100000 in
theorem Fr.alloc (h : Fr a w S) (o : Obj) : Fr a (w.alloc o) S :=
  ⟨h.os, h.tape, h.output, Nat.le_trans h.size (by simp), fun b hb hn => (Below.heap_alloc w o b (Nat.lt_of_lt_of_le hb h.size)).trans (h.block b hb hn)⟩
set_option maxRecDepth 100000 in
theorem Fr.setCell (h : Fr a w S) {p : Addr} (hp : S p.block ∨ a.heap.size ≤ p.block) (u : Value) : Fr a (w.setCell p u) S :=
  ⟨h.os, h.tape, h.output, by simpa [World.setCell] using h.size, fun b hb hn => (Below.heap_setCell w p u b (by
    rintro rfl
    rcases hp with hp | hp
    · exact hn hp
    · omega)).trans (h.block b hb hn)⟩
set_option maxRecDepth 100000 in
theorem Fr.grown {row : Option Nat} (h : Fr a w S) (hg : w.grownBy w' row) (hr : ∀ k, row = some k → S k ∨ a.heap.size ≤ k) : Fr a w' S :=
  h.trans (T := fun b => some b = row) ⟨hg.os, hg.tape, hg.output, hg.size, fun b hb hn => hg.block b hb hn⟩ fun b hb => hr b hb.symm
set_option maxRecDepth 100000 in
theorem Fr.below {B : Nat} (h : Fr w w' S) (hS : ∀ b, S b → B ≤ b) (hB : B ≤ w.heap.size) : Below B w w' :=
  ⟨h.os, h.tape, h.output, h.size, fun b hb => h.block b (by omega) fun hs => by have := hS b hs; omega⟩
set_option maxRecDepth 100000 in
theorem Fr.of_below (h : Below w.heap.size w w') (S : Nat → Prop) : Fr w w' S := ⟨h.os, h.tape, h.output, h.size, fun b hb _ => h.block b hb⟩
set_option maxRecDepth 100000 in
theorem Fr.no_below (h : Fr w w' No) : Below w.heap.size w w' := h.below (fun _ hb => hb.elim) (Nat.le_refl _)
end

/-! ### A block that is known whole -/
def Blk (w : World) (g : Nat) (t : TypeId) (cs : Array Value) : Prop := w.heap[g]? = some (.cells cs t (0, 0))
section
variable {a w w' : World} {g : Nat} {t : TypeId} {cs : Array Value} {S : Nat → Prop}
set_option maxRecDepth 100000 in
theorem Blk.lt (h : Blk w g t cs) : g < w.heap.size := by
  rcases Nat.lt_or_ge g w.heap.size with hlt | hge
  · exact hlt
  · unfold Blk at h; rw [Array.getElem?_eq_none hge] at h; cases h
set_option maxRecDepth 100000 in
theorem Blk.cell (h : Blk w g t cs) (i : Nat) : w.cell? ⟨g, i, none⟩ = cs[i]? := cell_of_row w g i cs t (0, 0) h
set_option maxRecDepth 100000 in
theorem Blk.frozen (h : Blk w g t cs) (i : Nat) : w.frozen? ⟨g, i, none⟩ = false := by
  unfold Blk at h
  simp [World.frozen?, h]
set_option maxRecDepth 100000 in
theorem Blk.new (w : World) (t : TypeId) (cs : Array Value) : Blk (w.alloc (.cells cs t)) w.heap.size t cs := heap_alloc_new w _
set_option maxRecDepth 100000 in
theorem Blk.drew (h : Blk w g t cs) : Blk w.drew g t cs := h
set_option maxRecDepth 100000 in
theorem Blk.drewN (h : Blk w g t cs) (n : Nat) : Blk (w.drewN n) g t cs := h
set_option maxRecDepth 100000 in
theorem Blk.alloc (h : Blk w g t cs) (o : Obj) : Blk (w.alloc o) g t cs := (Below.heap_alloc w o g h.lt).trans h
set_option maxRecDepth 100000 in
theorem Blk.set_ (h : Blk w g t cs) (i : Nat) (u : Value) : Blk (w.setCell ⟨g, i, none⟩ u) g t (cs.setIfInBounds i u) := by
  unfold Blk at h ⊢
  simp [World.setCell, Array.getElem?_modify, h]
set_option maxRecDepth 100000 in
theorem Blk.far (h : Blk w g t cs) {p : Addr} (hp : g ≠ p.block) (u : Value) : Blk (w.setCell p u) g t cs := (Below.heap_setCell w p u g hp).trans h
set_option maxRecDepth 100000 in
theorem Blk.keep (h : Blk w g t cs) (hf : Fr w w' S) (hg : ¬ S g) : Blk w' g t cs := (hf.block g h.lt hg).trans h
set_option maxRecDepth 100000 in
theorem Blk.below {B : Nat} (h : Blk w g t cs) (hb : Below B w w') (hg : g < B) : Blk w' g t cs := (hb.block g hg).trans h
set_option maxRecDepth 100000 in
theorem Blk.grown {row : Option Nat} (h : Blk w g t cs) (hb : w.grownBy w' row) (hg : some g ≠ row) : Blk w' g t cs := (hb.block g h.lt hg).trans h
set_option maxRecDepth 100000 in
theorem Blk.ne_ {g' : Nat} {t' : TypeId} {cs' : Array Value} (h : Blk w g t cs) (h' : Blk w g' t' cs') (hne : t ≠ t') : g ≠ g' := by
  rintro rfl
  unfold Blk at h h'
  rw [h] at h'
  injection h' with h'
  injection h' with _ ht
  exact hne ht
set_option maxRecDepth 100000 in
theorem Blk.own_ne {base : Nat} {e : TypeId} {size n : Nat} {v : Value} {xs : List Value} (hg : Blk w g t cs) (h : w.ownsRow base e size v n xs) (hne : e ≠ t) : some g ≠ v.ownBlock := by
  rcases h.2 with ⟨rfl, _⟩ | ⟨g', cap, cur, rfl, _, hh, _⟩
  · simp [Value.ownBlock]
  · intro he
    have : g = g' := by simpa [Value.ownBlock] using he
    subst this
    exact Blk.ne_ (t := e) hh hg hne rfl
end

theorem up1 {w wr w1 : World} {o : Obj} (h : Below w.heap.size w wr) (h2 : Below (wr.alloc o).heap.size (wr.alloc o) w1) : Below w.heap.size w w1 :=
  h.trans (Below.mono (((Below.refl wr.heap.size wr).alloc (Nat.le_refl _) o).trans (h2.mono (by simp))) h.size)
theorem below_trans {w w1 w2 : World} (h : Below w.heap.size w w1) (k : Below w1.heap.size w1 w2) : Below w.heap.size w w2 := h.trans (k.mono h.size)

/-! ### Strings as the walk has them -/
def seq (a b : ByteArray) : Bool := a.toList == b.toList
def slt (a b : ByteArray) : Bool := Op.bytesLess a.toList b.toList
theorem run_eqs (a b : ByteArray) : binOp .eql 9 (.string a) (.string b) = pure (.bool (seq a b)) := binOp_string_eql 9 a b
theorem run_neqs (a b : ByteArray) : binOp .neq 9 (.string a) (.string b) = pure (.bool (!seq a b)) := binOp_string_neq 9 a b
theorem run_lsss (a b : ByteArray) : binOp .lss 9 (.string a) (.string b) = pure (.bool (slt a b)) := rfl
theorem bless_leq : ∀ a b : List UInt8, (Op.bytesLess a b || a == b) = !Op.bytesLess b a
  | [], [] => by simp [Op.bytesLess]
  | [], _ :: _ => by simp [Op.bytesLess]
  | _ :: _, [] => by simp [Op.bytesLess]
  | x :: a, y :: b => by
    have ih := bless_leq a b
    unfold Op.bytesLess
    by_cases hxy : x = y
    · subst hxy
      have h1 : decide (x < x) = false := decide_eq_false (by simp)
      rw [h1, beq_self_eq_true, Bool.false_or, Bool.true_and, Bool.false_or, Bool.true_and, ← ih]
      congr 1
      simp [List.cons_beq_cons]
    · have h1 : (x == y) = false := by simpa using hxy
      have h2 : (y == x) = false := by simpa using fun e : y = x => hxy e.symm
      have h3 : (x :: a == y :: b) = false := by simp [List.cons_beq_cons, h1]
      rw [h1, h2, h3, Bool.false_and, Bool.false_and, Bool.or_false, Bool.or_false, Bool.or_false]
      by_cases hlt : x < y
      · have : ¬ y < x := fun h => absurd (UInt8.lt_trans hlt h) (by simp)
        rw [decide_eq_true hlt, decide_eq_false this]; rfl
      · have : y < x := by
          rcases Nat.lt_trichotomy x.toNat y.toNat with h | h | h
          · exact absurd h hlt
          · exact absurd (UInt8.toNat_inj.1 h) hxy
          · exact h
        rw [decide_eq_false hlt, decide_eq_true this]; rfl
theorem run_leqs (a b : ByteArray) : binOp .leq 9 (.string a) (.string b) = pure (.bool (!slt b a)) := by
  show Op.stringOp .leq a b = _
  simp only [Op.stringOp]
  rw [bless_leq]
  rfl

/-! ### Things and locks -/
structure Th where
  r : Bool
  i : Nat
  a : ByteArray
  b : ByteArray
structure LK where
  t : Nat
  x : Th
  m : Int
  h : Bool
def Th.agg (x : Th) : Value := .agg #[.bool x.r, .int .u32 (x.i : Int), .string x.a, .string x.b]
def LK.agg (l : LK) : Value := .agg #[.int .u32 (l.t : Int), .bool l.x.r, .int .u32 (l.x.i : Int), .string l.x.a, .string l.x.b, .int .i64 l.m, .bool l.h]
def e0 : ByteArray := ⟨#[]⟩
def emp (a : ByteArray) : Bool := seq a ⟨#[]⟩
def aheadM (a b : Th) : Bool := emp b.b || slt a.a b.b
def alikeM (a b : Th) : Bool := a.r == b.r && a.i == b.i
def meetM (a b : Th) : Bool := alikeM a b && aheadM a b && aheadM b a
def liesM (a b : Th) : Bool := alikeM a b && !slt a.a b.a && (emp b.b || (!emp a.b && !slt b.b a.b))
def agT (a : Int) : Nat := if a = 1 then 16 else if a = 2 then 24 else if a = 3 then 20 else if a = 4 then 30 else 0
def inT (a : Int) : Nat := if a = 1 then 2 else if a = 2 then 6 else if a = 3 then 10 else if a = 4 then 30 else 0
def conM (a b : Int) : Bool := agT a / 2 ^ b.toNat % 2 == 1
def covM (a b : Int) : Bool := inT a / 2 ^ b.toNat % 2 == 1
def mayM (x : Th) (m : Int) : Bool := if x.r then decide (x.a.size ≤ 148) && decide (x.b.size ≤ 148) && aheadM x x && (m == 3 || m == 4) else emp x.a && emp x.b && decide (1 ≤ m) && decide (m ≤ 4)
/-- what the two tables of bits hold -/
def Gw (w : World) : Prop := (∀ k : Int, 0 ≤ k → k ≤ 4 → w.cell? ⟨0, k.toNat, none⟩ = some (.int .u8 (inT k : Int)) ∧ w.cell? ⟨1, k.toNat, none⟩ = some (.int .u8 (agT k : Int))) ∧ 2 ≤ w.heap.size
theorem Gw.keep {w w' : World} {S : Nat → Prop} (h : Gw w) (hf : Fr w w' S) (hS : ∀ b, S b → 2 ≤ b) : Gw w' :=
  ⟨fun k h0 h4 => ⟨(World.cell?_of_block (hf.block 0 (by have := h.2; omega) fun h => by have := hS _ h; omega)).trans (h.1 k h0 h4).1, (World.cell?_of_block (hf.block 1 (by have := h.2; omega) fun h => by have := hS _ h; omega)).trans (h.1 k h0 h4).2⟩, Nat.le_trans h.2 hf.size⟩
theorem Gw.below {w w' : World} (h : Gw w) (hb : Below w.heap.size w w') : Gw w' := h.keep (Fr.of_below hb No) fun _ h => h.elim
end Go.Proofs.YtlblgfpafdfilaaDoor
