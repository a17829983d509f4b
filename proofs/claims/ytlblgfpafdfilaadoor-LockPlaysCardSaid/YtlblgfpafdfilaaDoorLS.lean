/-
STAGE 12: Waits.
-/
import Derived.Test.YtlblgfpafdfilaaDoorLP
namespace Go.Proofs.YtlblgfpafdfilaaDoor
open Go.RowKit Go.Sort

/-- for whom the lock q at place p waits: one place more -/
def inM (ls : List LK) (q : LK) (p : Nat) (st : List (Nat × Nat) × Nat) (o : Nat) : List (Nat × Nat) × Nat :=
  if ((ls.getD o okz).t != st.2 && waitM (ls.any (passP q)) q p (ls.getD o okz) o) = true then (st.1 ++ [(q.t, (ls.getD o okz).t)], (ls.getD o okz).t) else st
def inL (ls : List LK) (q : LK) (p : Nat) (pl : List Nat) (acc : List (Nat × Nat)) : List (Nat × Nat) × Nat := pl.foldl (inM ls q p) (acc, 0)
def outM (ls : List LK) (pl : List Nat) (acc : List (Nat × Nat)) (p : Nat) : List (Nat × Nat) := if (ls.getD p okz).h = true then acc else (inL ls (ls.getD p okz) p pl acc).1
def waitsM (ls : List LK) (pl : List Nat) : List (Nat × Nat) := pl.foldl (outM ls pl) []
theorem foldl_take {α β : Type} (f : β → α → β) (b : β) {l : List α} {k : Nat} {x : α} (h : l[k]? = some x) : (l.take (k + 1)).foldl f b = f ((l.take k).foldl f b) x := by
  obtain ⟨hk, e⟩ := List.getElem?_eq_some_iff.1 h
  rw [List.take_succ_eq_append_getElem hk, List.foldl_append, e]
  rfl
theorem Rises.len {ls : List LK} {pl : List Nat} (h : Rises ls pl) : pl.length = ls.length := by rw [h.1.length_eq, List.length_range]
theorem Rises.lt {ls : List LK} {pl : List Nat} (h : Rises ls pl) {k p : Nat} (hk : pl[k]? = some p) : p < ls.length := List.mem_range.1 (h.1.mem_iff.1 (List.mem_of_getElem? hk))
theorem inL_take (ls : List LK) (q : LK) (p : Nat) {pl : List Nat} {k o : Nat} (acc : List (Nat × Nat)) (h : pl[k]? = some o) : inL ls q p (pl.take (k + 1)) acc = inM ls q p (inL ls q p (pl.take k) acc) o := foldl_take _ _ h
/-- the pairs so far -/
structure WI (w1 wr : World) (v : Value) (acc : List (Nat × Nat)) (m : Nat) : Prop where
  own : OwR wr 47 2 pf v acc
  new : ∀ b, v.ownBlock = some b → w1.heap.size ≤ b
  len : acc.length ≤ m
  bel : RowKit.Below w1.heap.size w1 wr
theorem WI.up {w1 wr w2 : World} {v : Value} {acc : List (Nat × Nat)} {m : Nat} (h : WI w1 wr v acc m) (hb : RowKit.Below wr.heap.size wr w2) : WI w1 w2 v acc m := ⟨h.own.up hb, h.new, h.len, h.bel.trans (hb.mono h.bel.size)⟩
theorem WI.more {w1 wr w2 : World} {v v' : Value} {acc : List (Nat × Nat)} {x : Nat × Nat} {m : Nat} {o : Obj} (h : WI w1 wr v acc m) (ho : OwR w2 47 2 pf v' (acc ++ [x])) (hg : (wr.alloc o).grownBy w2 v.ownBlock) (hb : v'.ownBlock = v.ownBlock ∨ v'.ownBlock = some (wr.alloc o).heap.size) : WI w1 w2 v' (acc ++ [x]) (m + 1) := by
  have hs := h.bel.size
  refine ⟨ho, fun b hb' => ?_, by rw [List.length_append, List.length_singleton]; have := h.len; omega, ?_⟩
  · rcases hb with hb | hb
    · exact h.new b (by rw [← hb]; exact hb')
    · rw [hb] at hb'
      injection hb' with hb'
      rw [← hb']
      simp
      omega
  · exact h.bel.trans (((Below.refl w1.heap.size wr).alloc hs _).trans (below_of_grown hg (fun b hb => h.new b hb) (by simp; omega)))
end Go.Proofs.YtlblgfpafdfilaaDoor
