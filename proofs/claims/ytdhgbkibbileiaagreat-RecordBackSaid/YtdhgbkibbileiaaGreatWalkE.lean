/-
  THE WALKS OF THE READER's SMALL CALLS: readable, NewReader, Left, Err, End, take.
-/
import Derived.Test.YtdhgbkibbileiaaGreatWalkD
namespace Go.Proofs.YtdhgbkibbileiaaGreat
open Go.RowKit

/-! ### What a reader answers, and what it is behind it: o is what stands at the front of l -/
def okO {α : Type} (ok : Bool) (o : Option (α × Nat)) : Bool := ok && o.isSome
def leftO {α : Type} (ok : Bool) (l : List Nat) (o : Option (α × Nat)) : List Nat :=
  match ok, o with
  | true, some (_, n) => l.drop n
  | _, _ => l
def valO {α : Type} (ok : Bool) (o : Option (α × Nat)) (z : α) : α :=
  match ok, o with
  | true, some (x, _) => x
  | _, _ => z
def takeO (l : List Nat) (n : Int) : Option (List Nat × Nat) := if 0 ≤ n ∧ n ≤ l.length then some (l.take n.toNat, n.toNat) else none
def errOf (ok : Bool) : Int := if ok then 0 else 5

set_option maxRecDepth 100000 in
theorem readable_any (w : World) (S : Nat → Prop) (p : Option Nat) (ok : Bool) (l : List Nat) (h : Rd w S p ok l) :
    Calls Tryz.prog 127 #[ptr p] w fun e w' => e = .returned (.bool ok) ∧ w = w' := by
  cases p with
  | none =>
    obtain ⟨rfl, _⟩ := h
    simp only [ptr, Option.map]
    go_enter Tryz.func127, Tryz.ntmps127
    go_wp2
    go_ret
    exact ⟨rfl, rfl⟩
  | some g =>
    obtain ⟨_, A, n, c, hb, _⟩ := h
    have hc := hb.cell 0
    simp only [ptr, Option.map]
    clear hb
    go_enter Tryz.func127, Tryz.ntmps127
    go_wp2
    go_ret
    exact ⟨rfl, rfl⟩

set_option maxRecDepth 100000 in
theorem err_any (w : World) (S : Nat → Prop) (p : Option Nat) (ok : Bool) (l : List Nat) (h : Rd w S p ok l) :
    Calls Tryz.prog 135 #[ptr p] w fun e w' => e = .returned (.int .i64 (errOf ok)) ∧ w = w' := by
  have HC := Lib.hid (readable_any w S p ok l h)
  clear h
  cases ok with
  | true =>
    simp only [errOf, if_true]
    go_enter Tryz.func135, Tryz.ntmps135
    go_wp2_with (go_at_call 127; refine HC.out.mono ?_; rintro e w' ⟨rfl, rfl⟩)
    go_ret
    exact ⟨rfl, rfl⟩
  | false =>
    simp only [errOf, Bool.false_eq_true, if_false]
    go_enter Tryz.func135, Tryz.ntmps135
    go_wp2_with (go_at_call 127; refine HC.out.mono ?_; rintro e w' ⟨rfl, rfl⟩)
    go_ret
    exact ⟨rfl, rfl⟩

set_option maxRecDepth 100000 in
/-- the fault is set -/
theorem Rd.fault {w : World} {S : Nat → Prop} {g : Nat} {ok : Bool} {l : List Nat} (h : Rd w S (some g) ok l) :
    Rd (w.setCell ⟨g, 0, none⟩ (.bool false)) S (some g) false l ∧ Fr w (w.setCell ⟨g, 0, none⟩ (.bool false)) S := by
  obtain ⟨hS, A, n, c, hb, hr, h4⟩ := h
  refine ⟨⟨hS, A, n, c, by simpa using hb.set_ 0 (.bool false), hr.far (fun hh => hh.2 rfl) _, h4⟩, (Fr.refl _ _).setCell (Or.inl hS) _⟩
set_option maxRecDepth 100000 in
/-- k bytes are taken -/
theorem Rd.took {w : World} {S : Nat → Prop} {g : Nat} {ok : Bool} {l : List Nat} {A : Option Addr} {n c k : Nat} (hS : S g) (hb : Blk w g 100 #[.bool ok, .slice A n c]) (hr : RB w (fun b => S b ∧ b ≠ g) A n l) (hc : n ≤ c) (hn : n ≤ 140737488351232) (hk : k ≤ n) :
    Rd (w.setCell ⟨g, 1, none⟩ (.slice (if c = k then A else A.map (·.add k)) (n - k) (c - k))) S (some g) ok (l.drop k) ∧ Fr w (w.setCell ⟨g, 1, none⟩ (.slice (if c = k then A else A.map (·.add k)) (n - k) (c - k))) S :=
  ⟨⟨hS, _, _, _, by simpa using hb.set_ 1 (.slice (if c = k then A else A.map (·.add k)) (n - k) (c - k)), (hr.drop hk hc).far (fun hh => hh.2 rfl) _, by omega, by omega⟩, (Fr.refl _ _).setCell (Or.inl hS) _⟩
set_option maxRecDepth 100000 in
theorem rd_some {w : World} {S : Nat → Prop} {p : Option Nat} {l : List Nat} (h : Rd w S p true l) : ∃ g, p = some g := by
  cases p with
  | none => exact absurd h.1 (by simp)
  | some g => exact ⟨g, rfl⟩

set_option maxRecDepth 100000 in
theorem newReader_any (w : World) (T : Nat → Prop) (A : Option Addr) (n c : Nat) (l : List Nat) (hr : RB w T A n l) (hn : n ≤ 140737488351232) :
    Calls Tryz.prog 32 #[.slice A n c] w fun e w' => ∃ g, e = .returned (ptr (some g)) ∧ Rd w' (fun b => w.heap.size ≤ b) (some g) true l ∧ Below w.heap.size w w' := by
  have HC := Lib.hid (clone_any w T A n c l hr hn)
  have hln := hr.len
  have hn2 : l.length ≤ 140737488351232 := by omega
  clear hr hln
  go_enter Tryz.func32, Tryz.ntmps32
  go_wp2_with fail
  refine HC.out.mono ?_
  rintro e w1 ⟨v, rfl, ho, hb⟩
  obtain ⟨A1, c1, rfl, h1, _, h3⟩ := ho.reads
  have HR := Lib.hid h3
  have HB := Lib.hid hb
  have hsz := hb.size
  clear ho hb h3
  go_wp2
  go_ret
  refine ⟨w1.heap.size, rfl, ⟨hsz, A1, l.length, c1, Blk.new w1 100 _, ?_, h1, hn2⟩, HB.out.alloc hsz _⟩
  exact (HR.out.mono (T := fun b => w.heap.size ≤ b ∧ b ≠ w1.heap.size) fun b hb hS => ⟨hS, by omega⟩).alloc _

end Go.Proofs.YtdhgbkibbileiaaGreat
