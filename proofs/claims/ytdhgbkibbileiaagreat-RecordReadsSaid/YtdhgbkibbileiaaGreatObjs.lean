/-
Objs
-/
import Derived.Test.YtdhgbkibbileiaaGreatWords
set_option maxRecDepth 100000
namespace Go.Proofs.YtdhgbkibbileiaaGreat
open Go.RowKit
def ptr (p : Option Nat) : Value := .pointer (p.map fun g => ⟨g, 0, none⟩)
def Wr (w : World) (S : Nat → Prop) (p : Option Nat) (ok : Bool) (l : List Nat) : Prop :=
 match p with
 | none => ok = false ∧ l = []
 | some g => S g ∧ ∃ v n, Blk w g 117 #[.bool ok, v] ∧ Ow w S v n l
def Rd (w : World) (S : Nat → Prop) (p : Option Nat) (ok : Bool) (l : List Nat) : Prop :=
 match p with
 | none => ok = false ∧ l = []
 | some g => S g ∧ ∃ A n c, Blk w g 100 #[.bool ok, .slice A n c] ∧ RB w (fun b => S b ∧ b ≠ g) A n l ∧ n ≤ c ∧ n ≤ 140737488351232
def Qd (w : World) (S : Nat → Prop) (g : Nat) (ok : Bool) (l : List Nat) : Prop :=
 S g ∧ ∃ A n c, Blk w g 75 #[.slice A n c, .bool (!ok)] ∧ RB w (fun b => S b ∧ b ≠ g) A n l ∧ n ≤ c ∧ n ≤ 140737488351232
def Up (S : Nat → Prop) (w : World) : Nat → Prop := fun b => S b ∨ w.heap.size ≤ b
section
variable {w w' : World} {S T : Nat → Prop} {p : Option Nat} {g : Nat} {ok : Bool} {l : List Nat}
theorem Wr.mono (h : Wr w S p ok l) (hd : ∀ b, b < w.heap.size → S b → T b) : Wr w T p ok l := by
 cases p with
 | none => exact h
 | some g =>
   obtain ⟨h1, v, n, h2, h3⟩ := h
   exact ⟨hd g h2.lt h1, v, n, h2, h3.mono hd⟩
theorem Wr.keep (h : Wr w S p ok l) (hf : Fr w w' T) (hd : ∀ b, S b → ¬ T b) : Wr w' S p ok l := by
 cases p with
 | none => exact h
 | some g =>
   obtain ⟨h1, v, n, h2, h3⟩ := h
   exact ⟨h1, v, n, h2.keep hf (hd g h1), h3.keep hf hd⟩
theorem Wr.drew (h : Wr w S p ok l) : Wr w.drew S p ok l := h
theorem Wr.drewN (h : Wr w S p ok l) (k : Nat) : Wr (w.drewN k) S p ok l := h
theorem Wr.lt (h : Wr w S p ok l) : ∀ x ∈ l, x < 256 := by
 cases p with
 | none => rw [h.2]; simp
 | some g => obtain ⟨_, _, _, _, h3⟩ := h; exact h3.2.1
theorem Rd.mono (h : Rd w S p ok l) (hd : ∀ b, b < w.heap.size → S b → T b) : Rd w T p ok l := by
 cases p with
 | none => exact h
 | some g =>
   obtain ⟨h1, A, n, c, h2, h3, h4⟩ := h
   exact ⟨hd g h2.lt h1, A, n, c, h2, h3.mono fun b hb hS => ⟨hd b hb hS.1, hS.2⟩, h4⟩
theorem Rd.keep (h : Rd w S p ok l) (hf : Fr w w' T) (hd : ∀ b, S b → ¬ T b) : Rd w' S p ok l := by
 cases p with
 | none => exact h
 | some g =>
   obtain ⟨h1, A, n, c, h2, h3, h4⟩ := h
   exact ⟨h1, A, n, c, h2.keep hf (hd g h1), h3.keep hf fun b hb => hd b hb.1, h4⟩
theorem Rd.drew (h : Rd w S p ok l) : Rd w.drew S p ok l := h
theorem Rd.drewN (h : Rd w S p ok l) (k : Nat) : Rd (w.drewN k) S p ok l := h
theorem Rd.lt (h : Rd w S p ok l) : ∀ x ∈ l, x < 256 := by
 cases p with
 | none => rw [h.2]; simp
 | some g => obtain ⟨_, _, _, _, _, h3, _⟩ := h; exact h3.lt
theorem Qd.mono (h : Qd w S g ok l) (hd : ∀ b, b < w.heap.size → S b → T b) : Qd w T g ok l := by
 obtain ⟨h1, A, n, c, h2, h3, h4⟩ := h
 exact ⟨hd g h2.lt h1, A, n, c, h2, h3.mono fun b hb hS => ⟨hd b hb hS.1, hS.2⟩, h4⟩
theorem Qd.keep (h : Qd w S g ok l) (hf : Fr w w' T) (hd : ∀ b, S b → ¬ T b) : Qd w' S g ok l := by
 obtain ⟨h1, A, n, c, h2, h3, h4⟩ := h
 exact ⟨h1, A, n, c, h2.keep hf (hd g h1), h3.keep hf fun b hb => hd b hb.1, h4⟩
theorem Qd.drew (h : Qd w S g ok l) : Qd w.drew S g ok l := h
theorem Qd.drewN (h : Qd w S g ok l) (k : Nat) : Qd (w.drewN k) S g ok l := h
theorem Qd.lt (h : Qd w S g ok l) : ∀ x ∈ l, x < 256 := by obtain ⟨_, _, _, _, _, h3, _⟩ := h; exact h3.lt
theorem Rd.len (h : Rd w S p ok l) : l.length ≤ 140737488351232 := by
 cases p with
 | none => rw [h.2]; simp
 | some g => obtain ⟨_, _, n, _, _, h3, _, h4⟩ := h; rw [h3.len]; exact h4
theorem Qd.len (h : Qd w S g ok l) : l.length ≤ 140737488351232 := by obtain ⟨_, _, n, _, _, h3, _, h4⟩ := h; rw [h3.len]; exact h4
end
end Go.Proofs.YtdhgbkibbileiaaGreat
