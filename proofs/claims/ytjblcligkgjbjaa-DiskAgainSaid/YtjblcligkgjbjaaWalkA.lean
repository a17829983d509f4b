/-
  A DISK IN MEMORY; THE WALKS OF Sectors, Pending, Dark, has, operate, Trip.
-/
import Derived.Test.YtjblcligkgjbjaaDisk
namespace Go.Proofs.Ytjblcligkgjbjaa
open Go.RowKit Go.Sort Go.Maps

/-- a disk's own cells -/
def dcs (d : DS) (L M : Nat) (v : Value) (c : Int) : Array Value :=
  #[.slice (some ⟨L, 0, none⟩) d.kept.length d.kept.length, v, .map (some M), .int .i64 c, .bool d.dark, .int .i64 d.rd, .int .i64 d.wr, .int .i64 d.sy]
structure DB (w : World) (S : Nat → Prop) (g : Nat) (d : DS) (L M : Nat) (v : Value) (c : Int) : Prop where
  sg : S g
  sl : S L
  sm : S M
  ok : d.Ok
  b : Blk w g 65 (dcs d L M v c)
  l : Blk w L 69 (secs d.kept).toArray
  r : CR w S v d.cache
  m : IM w M (fun a => placeN d.cache a d.cache.length) d.cache.length
  t : d.dark = false → c = d.trip
/-- g is a disk that stands as d -/
def DAt (w : World) (S : Nat → Prop) (g : Nat) (d : DS) : Prop := ∃ L M v c, DB w S g d L M v c
/-- of nobody: nil, or all noughts -/
def Nob (w : World) (p : Option Nat) : Prop :=
  match p with
  | none => True
  | some g => Blk w g 65 #[.slice none 0 0, .slice none 0 0, .map none, .int .i64 0, .bool false, .int .i64 0, .int .i64 0, .int .i64 0]
section
variable {w w' : World} {S T : Nat → Prop} {g L M : Nat} {d d' : DS} {v : Value} {c c' : Int}
theorem DB.mono (h : DB w S g d L M v c) (hd : ∀ b, b < w.heap.size → S b → T b) : DB w T g d L M v c :=
  ⟨hd _ h.b.lt h.sg, hd _ h.l.lt h.sl, hd _ h.m.lt h.sm, h.ok, h.b, h.l, h.r.mono hd, h.m, h.t⟩
theorem DB.keep (h : DB w S g d L M v c) (hf : Fr w w' T) (hd : ∀ b, S b → ¬ T b) : DB w' S g d L M v c :=
  ⟨h.sg, h.sl, h.sm, h.ok, h.b.keep hf (hd _ h.sg), h.l.keep hf (hd _ h.sl), h.r.keep hf hd, h.m.stays (hf.block _ h.m.lt (hd _ h.sm)), h.t⟩
theorem DAt.mono (h : DAt w S g d) (hd : ∀ b, b < w.heap.size → S b → T b) : DAt w T g d := by
  obtain ⟨L, M, v, c, h⟩ := h
  exact ⟨L, M, v, c, h.mono hd⟩
theorem DAt.keep (h : DAt w S g d) (hf : Fr w w' T) (hd : ∀ b, S b → ¬ T b) : DAt w' S g d := by
  obtain ⟨L, M, v, c, h⟩ := h
  exact ⟨L, M, v, c, h.keep hf hd⟩
theorem DAt.drew (h : DAt w S g d) : DAt w.drew S g d := h.keep (T := No) (Fr.refl w No).drew fun _ _ hn => hn
theorem DAt.drewN (h : DAt w S g d) (n : Nat) : DAt (w.drewN n) S g d := h.keep (T := No) ((Fr.refl w No).drewN n) fun _ _ hn => hn
theorem DAt.ok (h : DAt w S g d) : d.Ok := by obtain ⟨L, M, v, c, h⟩ := h; exact h.ok
theorem DAt.lt (h : DAt w S g d) : g < w.heap.size := by obtain ⟨L, M, v, c, h⟩ := h; exact h.b.lt
theorem DAt.alloc (h : DAt w S g d) (o : Obj) : DAt (w.alloc o) S g d :=
  h.keep (T := No) ((Fr.refl w No).alloc o) fun _ _ hn => hn
theorem CR.own_ne (h : CR w S v d.cache) {g' : Nat} {t : TypeId} {cs : Array Value} (hg : Blk w g' t cs) (ht : (72 : TypeId) ≠ t) : v.ownBlock ≠ some g' := fun e => hg.own_ne h.1 ht e.symm
/-- a cell of the disk's own is set -/
theorem DB.field (h : DB w S g d L M v c) (i : Nat) (u : Value) (hk : d'.kept = d.kept) (hc : d'.cache = d.cache) (ok : d'.Ok) (hb : (dcs d L M v c).setIfInBounds i u = dcs d' L M v c')
    (ht : d'.dark = false → c' = d'.trip) : DB (w.setCell ⟨g, i, none⟩ u) S g d' L M v c' ∧ Fr w (w.setCell ⟨g, i, none⟩ u) S := by
  have hh : ∀ x, x ≠ g → (w.setCell ⟨g, i, none⟩ u).heap[x]? = w.heap[x]? := fun x hx => Below.heap_setCell w _ u x hx
  refine ⟨⟨h.sg, h.sl, h.sm, ok, ?_, ?_, ?_, ?_, ht⟩, (Fr.refl _ _).setCell (Or.inl h.sg) _⟩
  · rw [← hb]; exact h.b.set_ i u
  · rw [hk]; exact h.l.far (h.l.ne_ h.b (by decide)) u
  · rw [hc]; exact h.r.stays fun x hx => hh x fun e => h.r.own_ne h.b (by decide) (e ▸ hx)
  · rw [hc]; exact h.m.stays (hh M fun e => h.m.ne_blk h.b e.symm)
end

theorem sectors_any (w : World) (S : Nat → Prop) (g : Nat) (d : DS) (h : DAt w S g d) :
    Calls Try.prog 11 #[ptr (some g)] w fun e w' => e = .returned (.int .i64 (d.kept.length : Int)) ∧ w = w' := by
  obtain ⟨L, M, v, c, h⟩ := h
  have hc := h.b.cell 0
  simp only [dcs, List.getElem?_toArray, List.getElem?_cons_zero] at hc
  simp only [ptr, Option.map]
  clear h
  go_enter Try.func11, Try.ntmps11
  go_wp2
  go_ret
  exact ⟨rfl, rfl⟩
theorem sectors_nob (w : World) (p : Option Nat) (h : Nob w p) : Calls Try.prog 11 #[ptr p] w fun e w' => e = .returned (.int .i64 0) ∧ w = w' := by
  cases p with
  | none =>
    simp only [ptr, Option.map]
    go_enter Try.func11, Try.ntmps11
    go_wp2
    go_ret
    exact ⟨rfl, rfl⟩
  | some g =>
    have hc := Blk.cell h 0
    simp only [List.getElem?_toArray, List.getElem?_cons_zero] at hc
    simp only [ptr, Option.map]
    clear h
    go_enter Try.func11, Try.ntmps11
    go_wp2
    go_ret
    exact ⟨rfl, rfl⟩
theorem pending_any (w : World) (S : Nat → Prop) (g : Nat) (d : DS) (h : DAt w S g d) :
    Calls Try.prog 15 #[ptr (some g)] w fun e w' => e = .returned (.int .i64 (d.cache.length : Int)) ∧ w = w' := by
  obtain ⟨L, M, v, c, h⟩ := h
  have hc := h.b.cell 1
  simp only [dcs, List.getElem?_toArray, List.getElem?_cons_zero, List.getElem?_cons_succ] at hc
  obtain ⟨A, cap, rfl⟩ : ∃ A cap, v = .slice A d.cache.length cap := by
    rcases h.r.look with ⟨rfl, e⟩ | ⟨g', cap, cur, rfl, _⟩
    · rw [e]; exact ⟨_, _, rfl⟩
    · exact ⟨_, _, rfl⟩
  simp only [ptr, Option.map]
  clear h
  go_enter Try.func15, Try.ntmps15
  go_wp2
  go_ret
  exact ⟨rfl, rfl⟩
theorem pending_nob (w : World) (p : Option Nat) (h : Nob w p) : Calls Try.prog 15 #[ptr p] w fun e w' => e = .returned (.int .i64 0) ∧ w = w' := by
  cases p with
  | none =>
    simp only [ptr, Option.map]
    go_enter Try.func15, Try.ntmps15
    go_wp2
    go_ret
    exact ⟨rfl, rfl⟩
  | some g =>
    have hc := Blk.cell h 1
    simp only [List.getElem?_toArray, List.getElem?_cons_zero, List.getElem?_cons_succ] at hc
    simp only [ptr, Option.map]
    clear h
    go_enter Try.func15, Try.ntmps15
    go_wp2
    go_ret
    exact ⟨rfl, rfl⟩
theorem dark_any (w : World) (S : Nat → Prop) (g : Nat) (d : DS) (h : DAt w S g d) :
    Calls Try.prog 16 #[ptr (some g)] w fun e w' => e = .returned (.bool d.dark) ∧ w = w' := by
  obtain ⟨L, M, v, c, h⟩ := h
  have hc := h.b.cell 4
  simp only [dcs, List.getElem?_toArray, List.getElem?_cons_zero, List.getElem?_cons_succ] at hc
  simp only [ptr, Option.map]
  clear h
  go_enter Try.func16, Try.ntmps16
  go_wp2
  go_ret
  exact ⟨rfl, rfl⟩
theorem dark_nob (w : World) (p : Option Nat) (h : Nob w p) : Calls Try.prog 16 #[ptr p] w fun e w' => e = .returned (.bool false) ∧ w = w' := by
  cases p with
  | none =>
    simp only [ptr, Option.map]
    go_enter Try.func16, Try.ntmps16
    go_wp2
    go_ret
    exact ⟨rfl, rfl⟩
  | some g =>
    have hc := Blk.cell h 4
    simp only [List.getElem?_toArray, List.getElem?_cons_zero, List.getElem?_cons_succ] at hc
    simp only [ptr, Option.map]
    clear h
    go_enter Try.func16, Try.ntmps16
    go_wp2
    go_ret
    exact ⟨rfl, rfl⟩
/-- has: by what Sectors says -/
theorem has_of (p : Option Nat) (n : Nat) (at_ : Int) (w : World) (HC : Calls Try.prog 11 #[ptr p] w fun e w' => e = .returned (.int .i64 (n : Int)) ∧ w = w') :
    Calls Try.prog 34 #[ptr p, .int .i64 at_] w fun e w' => e = .returned (.bool (decide (0 ≤ at_) && decide (at_ < n))) ∧ w = w' := by
  have HC := Lib.hid HC
  by_cases h0 : at_ ≥ 0
  · have e0 : decide (0 ≤ at_) = true := by simpa using h0
    rw [e0, Bool.true_and]
    go_enter Try.func34, Try.ntmps34
    go_wp2_with (go_at_call 11; refine HC.out.mono ?_; rintro e w' ⟨rfl, rfl⟩)
    go_ret
    exact ⟨rfl, rfl⟩
  · have e0 : decide (0 ≤ at_) = false := by simpa using h0
    rw [e0, Bool.false_and]
    have e1 : decide (at_ ≥ 0) = false := by simpa using h0
    go_enter Try.func34, Try.ntmps34
    go_wp2_with (go_at_call 11; refine HC.out.mono ?_; rintro e w' ⟨rfl, rfl⟩)
    go_ret
    exact ⟨rfl, rfl⟩
end Go.Proofs.Ytjblcligkgjbjaa
