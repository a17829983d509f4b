/-
  THE WALKS OF THE READER's SMALL CALLS: readable, NewReader, Left, Err, End, take.
-/
import Derived.Test.YtajmpoanmdgmpaaWalkD
namespace Go.Proofs.Ytajmpoanmdgmpaa
open Go.RowKit

/-! ### What a reader answers, and what it is behind it: o is what stands at the front of l -/
def okO {α : Type} (ok : Bool) (o : Option (α × Nat)) : Bool := ok && o.isSome
def leftO {α : Type} (ok : Bool) (l : List Nat) (o : Option (α × Nat)) : List Nat :=
  match ok, o with
  | true, some (_, n) => l.drop n
  | _, _ => l
def valO {α : Type} (ok : Bool) (o : Option (α × Nat)) (z : α) : α :=
  match ok, o with
  | true, some (x, _) => x
  | _, _ => z
def takeO (l : List Nat) (n : Int) : Option (List Nat × Nat) := if 0 ≤ n ∧ n ≤ l.length then some (l.take n.toNat, n.toNat) else none
def errOf (ok : Bool) : Int := if ok then 0 else 5

set_option maxRecDepth 100000 in
theorem readable_any (w : World) (S : Nat → Prop) (p : Option Nat) (ok : Bool) (l : List Nat) (h : Rd w S p ok l) :
    Calls Try.prog 80 #[ptr p] w fun e w' => e = .returned (.bool ok) ∧ w = w' := by
  cases p with
  | none =>
    obtain ⟨rfl, _⟩ := h
    simp only [ptr, Option.map]
    go_enter Try.func80, Try.ntmps80
    go_wp2
    go_ret
    exact ⟨rfl, rfl⟩
  | some g =>
    obtain ⟨_, A, n, c, hb, _⟩ := h
    have hc := hb.cell 0
    simp only [ptr, Option.map]
    clear hb
    go_enter Try.func80, Try.ntmps80
    go_wp2
    go_ret
    exact ⟨rfl, rfl⟩

set_option maxRecDepth 100000 in
theorem left_any (w : World) (S : Nat → Prop) (p : Option Nat) (ok : Bool) (l : List Nat) (h : Rd w S p ok l) :
    Calls Try.prog 56 #[ptr p] w fun e w' => e = .returned (.int .i64 ((l.length : Nat) : Int)) ∧ w = w' := by
  cases p with
  | none =>
    obtain ⟨_, rfl⟩ := h
    simp only [ptr, Option.map]
    go_enter Try.func56, Try.ntmps56
    go_wp2
    go_ret
    exact ⟨rfl, rfl⟩
  | some g =>
    obtain ⟨_, A, n, c, hb, hr, _⟩ := h
    have hn := hr.len
    have hc := hb.cell 1
    simp only [ptr, Option.map]
    rw [hn]
    clear hb hn hr
    go_enter Try.func56, Try.ntmps56
    go_wp2
    go_ret
    exact ⟨rfl, rfl⟩

set_option maxRecDepth 100000 in
theorem err_any (w : World) (S : Nat → Prop) (p : Option Nat) (ok : Bool) (l : List Nat) (h : Rd w S p ok l) :
    Calls Try.prog 81 #[ptr p] w fun e w' => e = .returned (.int .i64 (errOf ok)) ∧ w = w' := by
  have HC := Lib.hid (readable_any w S p ok l h)
  clear h
  cases ok with
  | true =>
    simp only [errOf, if_true]
    go_enter Try.func81, Try.ntmps81
    go_wp2_with (go_at_call 80; refine HC.out.mono ?_; rintro e w' ⟨rfl, rfl⟩)
    go_ret
    exact ⟨rfl, rfl⟩
  | false =>
    simp only [errOf, Bool.false_eq_true, if_false]
    go_enter Try.func81, Try.ntmps81
    go_wp2_with (go_at_call 80; refine HC.out.mono ?_; rintro e w' ⟨rfl, rfl⟩)
    go_ret
    exact ⟨rfl, rfl⟩

set_option maxRecDepth 100000 in
/-- the fault is set -/
theorem Rd.fault {w : World} {S : Nat → Prop} {g : Nat} {ok : Bool} {l : List Nat} (h : Rd w S (some g) ok l) :
    Rd (w.setCell ⟨g, 0, none⟩ (.bool false)) S (some g) false l ∧ Fr w (w.setCell ⟨g, 0, none⟩ (.bool false)) S := by
  obtain ⟨hS, A, n, c, hb, hr, h4⟩ := h
  refine ⟨⟨hS, A, n, c, by simpa using hb.set_ 0 (.bool false), hr.far (fun hh => hh.2 rfl) _, h4⟩, (Fr.refl _ _).setCell (Or.inl hS) _⟩
set_option maxRecDepth 100000 in
/-- k bytes are taken -/
theorem Rd.took {w : World} {S : Nat → Prop} {g : Nat} {ok : Bool} {l : List Nat} {A : Option Addr} {n c k : Nat} (hS : S g) (hb : Blk w g 98 #[.bool ok, .slice A n c]) (hr : RB w (fun b => S b ∧ b ≠ g) A n l) (hc : n ≤ c) (hn : n ≤ 140737488351232) (hk : k ≤ n) :
    Rd (w.setCell ⟨g, 1, none⟩ (.slice (if c = k then A else A.map (·.add k)) (n - k) (c - k))) S (some g) ok (l.drop k) ∧ Fr w (w.setCell ⟨g, 1, none⟩ (.slice (if c = k then A else A.map (·.add k)) (n - k) (c - k))) S :=
  ⟨⟨hS, _, _, _, by simpa using hb.set_ 1 (.slice (if c = k then A else A.map (·.add k)) (n - k) (c - k)), (hr.drop hk hc).far (fun hh => hh.2 rfl) _, by omega, by omega⟩, (Fr.refl _ _).setCell (Or.inl hS) _⟩
set_option maxRecDepth 100000 in
theorem rd_some {w : World} {S : Nat → Prop} {p : Option Nat} {l : List Nat} (h : Rd w S p true l) : ∃ g, p = some g := by
  cases p with
  | none => exact absurd h.1 (by simp)
  | some g => exact ⟨g, rfl⟩

set_option maxRecDepth 100000 in
theorem newReader_any (w : World) (T : Nat → Prop) (A : Option Addr) (n c : Nat) (l : List Nat) (hr : RB w T A n l) (hn : n ≤ 140737488351232) :
    Calls Try.prog 51 #[.slice A n c] w fun e w' => ∃ g, e = .returned (ptr (some g)) ∧ Rd w' (fun b => w.heap.size ≤ b) (some g) true l ∧ Below w.heap.size w w' := by
  have HC := Lib.hid (clone_any w T A n c l hr hn)
  have hln := hr.len
  have hn2 : l.length ≤ 140737488351232 := by omega
  clear hr hln
  go_enter Try.func51, Try.ntmps51
  go_wp2_with fail
  refine HC.out.mono ?_
  rintro e w1 ⟨v, rfl, ho, hb⟩
  obtain ⟨A1, c1, rfl, h1, _, h3⟩ := ho.reads
  have HR := Lib.hid h3
  have HB := Lib.hid hb
  have hsz := hb.size
  clear ho hb h3
  go_wp2
  go_ret
  refine ⟨w1.heap.size, rfl, ⟨hsz, A1, l.length, c1, Blk.new w1 98 _, ?_, h1, hn2⟩, HB.out.alloc hsz _⟩
  exact (HR.out.mono (T := fun b => w.heap.size ≤ b ∧ b ≠ w1.heap.size) fun b hb hS => ⟨hS, by omega⟩).alloc _

set_option maxRecDepth 100000 in
theorem end_any (w : World) (S : Nat → Prop) (p : Option Nat) (ok : Bool) (l : List Nat) (h : Rd w S p ok l) :
    Calls Try.prog 57 #[ptr p] w fun e w' => e = .returned (.int .i64 (errOf (ok && l.isEmpty))) ∧ Rd w' S p (ok && l.isEmpty) l ∧ Fr w w' S := by
  have HR := Lib.hid (readable_any w S p ok l h)
  cases ok with
  | false =>
    have HE := Lib.hid (err_any w S p false l h)
    have HD := Lib.hid h
    clear h
    simp only [Bool.false_and]
    go_enter Try.func57, Try.ntmps57
    go_wp2_with (first | (go_at_call 80; refine HR.out.mono ?_; rintro e w' ⟨rfl, rfl⟩) | (go_at_call 81; refine HE.out.mono ?_; rintro e w' ⟨rfl, rfl⟩))
    go_ret
    exact ⟨rfl, HD.out, Fr.refl _ _⟩
  | true =>
    obtain ⟨g, rfl⟩ := rd_some h
    cases l with
    | nil =>
      have HE := Lib.hid (err_any w S (some g) true [] h)
      have HD := Lib.hid h
      obtain ⟨_, A, n, c, hb, hr, _⟩ := h
      have hn := hr.len
      simp only [List.length_nil] at hn
      subst hn
      have hc := hb.cell 1
      clear hb hr
      simp only [ptr, Option.map] at HR HE ⊢
      go_enter Try.func57, Try.ntmps57
      go_wp2_with (first | (go_at_call 80; refine HR.out.mono ?_; rintro e w' ⟨rfl, rfl⟩) | (go_at_call 81; refine HE.out.mono ?_; rintro e w' ⟨rfl, rfl⟩))
      go_ret
      exact ⟨rfl, HD.out, Fr.refl _ _⟩
    | cons b r =>
      have hf := Rd.fault h
      have HE := Lib.hid (err_any _ S (some g) false (b :: r) hf.1)
      have HD := Lib.hid hf
      obtain ⟨_, A, n, c, hb, hr, _⟩ := h
      have hn := hr.len
      have hpos : 0 < n := by simp only [List.length_cons] at hn; omega
      have hc := hb.cell 1
      have hc0 := hb.cell 0
      have hc1 := hb.frozen 0
      clear hb hr hf hn
      simp only [ptr, Option.map] at HR HE ⊢
      go_enter Try.func57, Try.ntmps57
      go_wp2_with (first | (go_at_call 80; refine HR.out.mono ?_; rintro e w' ⟨rfl, rfl⟩) | (go_at_call 81; refine HE.out.mono ?_; rintro e w' ⟨rfl, rfl⟩))
      go_ret
      exact ⟨rfl, HD.out⟩
end Go.Proofs.Ytajmpoanmdgmpaa
