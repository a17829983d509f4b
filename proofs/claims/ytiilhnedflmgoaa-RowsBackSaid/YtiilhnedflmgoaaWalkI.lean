/-
  THE WALKS OF forms AND ITS FUNCTIONS.
-/
import Derived.Test.YtiilhnedflmgoaaWalkH
import Derived.Test.YtiilhnedflmgoaaWalkD
import Derived.Laws.EntriesVeiled
namespace Go.Proofs.Ytiilhnedflmgoaa
open Go.RowKit Go.Sort

/-- what each kind writes, and how it is read -/
def formsA : Array Value := #[.func (.func 40) #[] #[], .func (.func 41) #[] #[], .func (.func 42) #[] #[], .func (.func 44) #[] #[], .func (.func 46) #[] #[], .func (.func 48) #[] #[], .func (.func 50) #[] #[], .func (.func 52) #[] #[]]
set_option maxRecDepth 100000 in
theorem forms_any (w : World) : Calls Try.prog 28 #[] w fun e w' => e = .returned (.agg formsA) ∧ Below w.heap.size w w' := by
  unfold formsA
  go_enter Try.func28, Try.ntmps28
  go_wp2
  exact bodyPost_ret (v := .agg #[.func (.func 40) #[] #[], .func (.func 41) #[] #[], .func (.func 42) #[] #[], .func (.func 44) #[] #[], .func (.func 46) #[] #[], .func (.func 48) #[] #[], .func (.func 50) #[] #[], .func (.func 52) #[] #[]]) (by simp [results, Try.results28, go_sem]) rfl ⟨rfl, (Below.refl _ _).alloc (Nat.le_refl _) _⟩

/-! ### What writes a value -/
def Wro (w : World) (S : Nat → Prop) (g : Nat) (l k : List Nat) (e : Ending) (w' : World) : Prop := e = .returned (.tuple #[]) ∧ Wr w' (Up S w) (some g) true (l ++ k) ∧ Fr w w' S
theorem Wro.of {w w' : World} {S : Nat → Prop} {g : Nat} {l k : List Nat} (o : Obj) (h : Wrote (w.alloc o) S (some g) true l k w') : Wro w S g l k (.returned (.tuple #[])) w' := by
  obtain ⟨h1, h2⟩ := h
  refine ⟨rfl, ?_, ?_⟩
  · refine Wr.mono h1 fun b _ hb => ?_
    rcases hb with hb | hb
    · exact Or.inl hb
    · exact Or.inr (by simp at hb; omega)
  · exact (Fr.alloc (Fr.refl w S) o).same h2
theorem Wr.box {w : World} {S : Nat → Prop} {p : Option Nat} {ok : Bool} {l : List Nat} (h : Wr w S p ok l) (o : Obj) : Wr (w.alloc o) S p ok l := (Wr.alloc h o).mono fun _ _ hb => hb.1
theorem one0 {v : V} (h : v.k = 0) : one v = [] := by simp [one, h]
theorem one1 {v : V} (h : v.k = 1) : one v = Cd.vi (Cd.zz v.n) := by simp [one, h]
theorem one2 {v : V} (h : v.k = 2) : one v = Cd.tx (sb v.s) := by simp [one, h]
theorem one3 {v : V} (h0 : v.k = 3) : one v = [v.n.toNat] := by simp [one, h0]

set_option maxRecDepth 100000 in
theorem wnull_any (w : World) (S : Nat → Prop) (g : Nat) (l : List Nat) (k n : Int) (s : ByteArray) (h : Wr w S (some g) true l) :
    Calls Try.prog 40 #[ptr (some g), .agg #[.int .i64 k, .int .i64 n, .string s]] w (Wro w S g l []) := by
  have H := Lib.hid (h.box (.cells #[.int .i64 k, .int .i64 n, .string s] 40))
  clear h
  simp only [ptr, Option.map]
  go_enter Try.func40, Try.ntmps40
  go_wp2
  go_end0
  refine ⟨rfl, ?_, Fr.alloc (Fr.refl w S) _⟩
  rw [List.append_nil]
  exact H.out.mono fun _ _ hb => Or.inl hb
set_option maxRecDepth 100000 in
theorem wint1_any (w : World) (S : Nat → Prop) (g : Nat) (l : List Nat) (k n : Int) (s : ByteArray) (hl : l.length ≤ 1099511627776) (h1 : -9223372036854775808 ≤ n) (h2 : n ≤ 9223372036854775807) (h : Wr w S (some g) true l) :
    Calls Try.prog 42 #[ptr (some g), .agg #[.int .i64 k, .int .i64 n, .string s]] w (Wro w S g l (Cd.vi (Cd.zz n))) := by
  have HC := Lib.hid (wint_any _ S (some g) true l n h1 h2 hl (h.box (.cells #[.int .i64 k, .int .i64 n, .string s] 40)))
  clear h
  simp only [ptr, Option.map] at HC ⊢
  go_enter Try.func42, Try.ntmps42
  go_wp2_with (go_at_call 43; refine HC.out.mono ?_; rintro e w1 ⟨rfl, hb⟩; have HB := Lib.hid hb; clear hb)
  go_end0
  exact Wro.of _ HB.out
set_option maxRecDepth 100000 in
theorem wtext1_any (w : World) (S : Nat → Prop) (g : Nat) (l : List Nat) (k n : Int) (s : ByteArray) (hl : l.length ≤ 1099511627776) (hs : s.size ≤ 1099511627776) (h : Wr w S (some g) true l) :
    Calls Try.prog 46 #[ptr (some g), .agg #[.int .i64 k, .int .i64 n, .string s]] w (Wro w S g l (Cd.tx (sb s))) := by
  have HC := Lib.hid (wtext_any _ S (some g) true l s hs hl (h.box (.cells #[.int .i64 k, .int .i64 n, .string s] 40)))
  clear h
  simp only [ptr, Option.map] at HC ⊢
  go_enter Try.func46, Try.ntmps46
  go_wp2_with (go_at_call 47; refine HC.out.mono ?_; rintro e w1 ⟨rfl, hb⟩; have HB := Lib.hid hb; clear hb)
  go_end0
  exact Wro.of _ HB.out
set_option maxRecDepth 100000 in
theorem wbool1_any (w : World) (S : Nat → Prop) (g : Nat) (l : List Nat) (k : Int) (n : Nat) (s : ByteArray) (hl : l.length ≤ 1099511627776) (hn : n < 256) (h : Wr w S (some g) true l) :
    Calls Try.prog 50 #[ptr (some g), .agg #[.int .i64 k, .int .i64 (n : Int), .string s]] w (Wro w S g l [n]) := by
  have HC := Lib.hid (wu8_any _ S (some g) true l n hn hl (h.box (.cells #[.int .i64 k, .int .i64 (n : Int), .string s] 40)))
  have e : Cd.fixB 1 n = [n] := by simp [Cd.fixB]; omega
  have hw : IntKind.u8.wrap (n : Int) = (n : Int) := by simp only [IntKind.wrap_u8]; omega
  rw [e] at HC
  clear h e
  simp only [ptr, Option.map] at HC ⊢
  go_enter Try.func50, Try.ntmps50
  go_wp2_with (go_at_call 51; refine HC.out.mono ?_; rintro e w1 ⟨rfl, hb⟩; have HB := Lib.hid hb; clear hb)
  go_end0
  exact Wro.of _ HB.out

/-! ### How a value is read -/
/-- the block of the result, as it is made -/
def Zero (w : World) (r : Nat) : Prop := Blk w r 40 #[.int .i64 0, .int .i64 0, .string ⟨#[]⟩]
theorem Zero.new (w : World) : Zero (w.alloc (.cells #[.int .i64 0, .int .i64 0, .string ⟨#[]⟩] 40)) w.heap.size := Blk.new w 40 _
theorem Zero.facts {w : World} {r : Nat} (h : Zero w r) : (w.cell? ⟨r, 0, none⟩ = some (.int .i64 0) ∧ w.cell? ⟨r, 1, none⟩ = some (.int .i64 0) ∧ w.cell? ⟨r, 2, none⟩ = some (.string ⟨#[]⟩)) ∧ (w.frozen? ⟨r, 0, none⟩ = false ∧ w.frozen? ⟨r, 1, none⟩ = false ∧ w.frozen? ⟨r, 2, none⟩ = false) :=
  ⟨⟨Blk.cell h 0, Blk.cell h 1, Blk.cell h 2⟩, Blk.frozen h 0, Blk.frozen h 1, Blk.frozen h 2⟩
theorem Zero.keep {w w' : World} {r : Nat} {S : Nat → Prop} (h : Zero w r) (hf : Fr w w' S) (hne : ¬ S r) : Zero w' r := Blk.keep h hf hne
/-- a value is read: what it is, where the reader stands -/
def Rea {α : Type} (w : World) (S : Nat → Prop) (p : Option Nat) (ok : Bool) (l : List Nat) (o : Option (α × Nat)) (k n : Int) (s : ByteArray) (e : Ending) (w' : World) : Prop :=
  e = .returned (.agg #[.int .i64 k, .int .i64 n, .string s]) ∧ Got w S p ok l o w'
theorem Got.out3 {α : Type} {w w1 : World} {S : Nat → Prop} {p : Option Nat} {ok : Bool} {l : List Nat} {o : Option (α × Nat)} {ob : Obj} (h : Got (w.alloc ob) (fun b => S b ∧ b < w.heap.size) p ok l o w1) (a b c : Value) :
    Got w S p ok l o (((w1.setCell ⟨w.heap.size, 0, none⟩ a).setCell ⟨w.heap.size, 1, none⟩ b).setCell ⟨w.heap.size, 2, none⟩ c) := by
  obtain ⟨h1, h2⟩ := h
  have hf : Fr w1 (((w1.setCell ⟨w.heap.size, 0, none⟩ a).setCell ⟨w.heap.size, 1, none⟩ b).setCell ⟨w.heap.size, 2, none⟩ c) (fun b => b = w.heap.size) :=
    (((Fr.refl w1 (fun b => b = w.heap.size)).setCell (p := ⟨w.heap.size, 0, none⟩) (Or.inl rfl) a).setCell (p := ⟨w.heap.size, 1, none⟩) (Or.inl rfl) b).setCell (p := ⟨w.heap.size, 2, none⟩) (Or.inl rfl) c
  refine ⟨(Rd.keep h1 hf fun b hb e => ?_).mono fun _ _ hb => hb.1, ?_⟩
  · have := hb.2
    omega
  · have h3 : Fr w w1 S := Fr.trans (Fr.alloc (Fr.refl w S) ob) h2 fun b hb => Or.inl hb.1
    exact ((h3.setCell (p := ⟨w.heap.size, 0, none⟩) (Or.inr (Nat.le_refl _)) a).setCell (p := ⟨w.heap.size, 1, none⟩) (Or.inr (Nat.le_refl _)) b).setCell (p := ⟨w.heap.size, 2, none⟩) (Or.inr (Nat.le_refl _)) c
theorem Got.none_ {w : World} {S : Nat → Prop} {p : Option Nat} {ok : Bool} {l : List Nat} (h : Rd w S p ok l) (ob : Obj) : Rd (w.alloc ob) S p ok l ∧ Fr w (w.alloc ob) S :=
  ⟨(Rd.alloc h ob).mono fun _ _ hb => hb.1, Fr.alloc (Fr.refl w S) ob⟩
set_option maxRecDepth 100000 in
theorem rnull_any (w : World) (S : Nat → Prop) (g : Nat) (ok : Bool) (l : List Nat) (h : Rd w S (some g) ok l) :
    Calls Try.prog 41 #[ptr (some g)] w fun e w' => e = .returned (.agg #[.int .i64 0, .int .i64 0, .string ⟨#[]⟩]) ∧ Rd w' S (some g) ok l ∧ Fr w w' S := by
  have H := Lib.hid (Got.none_ h (.cells #[.int .i64 0, .int .i64 0, .string ⟨#[]⟩] 40))
  clear h
  simp only [ptr, Option.map]
  go_enter Try.func41, Try.ntmps41
  go_wp2
  exact bodyPost_ret (v := .agg #[.int .i64 0, .int .i64 0, .string ⟨#[]⟩]) (by simp [results, Try.results41, go_sem]) rfl ⟨rfl, H.out⟩
set_option maxRecDepth 100000 in
theorem rint1_any (w : World) (S : Nat → Prop) (g : Nat) (ok : Bool) (l : List Nat) (h : Rd w S (some g) ok l) :
    Calls Try.prog 44 #[ptr (some g)] w (Rea w S (some g) ok l (intO l) 1 (valO ok (intO l) 0) ⟨#[]⟩) := by
  have HC := Lib.hid (rint_any _ _ _ _ _ (Rd.alloc h (.cells #[.int .i64 0, .int .i64 0, .string ⟨#[]⟩] 40)))
  have HZ := Lib.hid (Zero.new w)
  generalize valO ok (intO l) 0 = z at HC ⊢
  clear h
  simp only [ptr, Option.map] at HC ⊢
  go_enter Try.func44, Try.ntmps44
  go_wp2_with (go_at_call 45; refine HC.out.mono ?_; rintro e w1 ⟨rfl, hb⟩; obtain ⟨⟨r0, r1, r2⟩, f0, f1, f2⟩ := (HZ.out.keep hb.2 (fun h => by have := h.2; omega)).facts; have HB := Lib.hid hb; clear hb)
  refine bodyPost_ret (v := .agg #[.int .i64 1, .int .i64 z, .string ⟨#[]⟩]) (by simp [results, Try.results44, go_sem, r0, r1, r2]) rfl ?_
  exact ⟨rfl, HB.out.out3 _ _ _⟩
set_option maxRecDepth 100000 in
theorem rtext1_any (w : World) (S : Nat → Prop) (g : Nat) (ok : Bool) (l : List Nat) (h : Rd w S (some g) ok l) :
    Calls Try.prog 48 #[ptr (some g)] w (Rea w S (some g) ok l (Cd.text l 64) 2 0 (bs (valO ok (Cd.text l 64) []))) := by
  have HC := Lib.hid (text_any _ _ _ _ _ 64 (by omega) (by omega) (Rd.alloc h (.cells #[.int .i64 0, .int .i64 0, .string ⟨#[]⟩] 40)))
  have HZ := Lib.hid (Zero.new w)
  unfold strV at HC
  generalize bs (valO ok (Cd.text l 64) []) = z at HC ⊢
  clear h
  simp only [ptr, Option.map] at HC ⊢
  go_enter Try.func48, Try.ntmps48
  go_wp2_with (go_at_call 49; refine HC.out.mono ?_; rintro e w1 ⟨rfl, hb⟩; obtain ⟨⟨r0, r1, r2⟩, f0, f1, f2⟩ := (HZ.out.keep hb.2 (fun h => by have := h.2; omega)).facts; have HB := Lib.hid hb; clear hb)
  refine bodyPost_ret (v := .agg #[.int .i64 2, .int .i64 0, .string z]) (by simp [results, Try.results48, go_sem, r0, r1, r2]) rfl ?_
  exact ⟨rfl, HB.out.out3 _ _ _⟩
set_option maxRecDepth 100000 in
theorem rbool1_any (w : World) (S : Nat → Prop) (g : Nat) (ok : Bool) (l : List Nat) (h : Rd w S (some g) ok l) :
    Calls Try.prog 52 #[ptr (some g)] w (Rea w S (some g) ok l (fixO l 1) 3 ((valO ok (fixO l 1) 0 : Nat) : Int) ⟨#[]⟩) := by
  have HC := Lib.hid (ru8_any _ _ _ _ _ (Rd.alloc h (.cells #[.int .i64 0, .int .i64 0, .string ⟨#[]⟩] 40)))
  have HZ := Lib.hid (Zero.new w)
  have hlt : valO ok (fixO l 1) 0 < 256 := by
    have hl := h.lt
    unfold fixO takeO
    by_cases h1 : 0 ≤ ((1 : Nat) : Int) ∧ ((1 : Nat) : Int) ≤ (l.length : Int)
    · rw [if_pos h1]
      cases ok
      · simp [valO]
      · simp only [Option.map_some, valO]
        cases l with
        | nil => simp at h1
        | cons x r =>
          have := hl x (by simp)
          simp [Cd.unfix]
          omega
    · rw [if_neg h1]
      cases ok <;> simp [valO]
  generalize valO ok (fixO l 1) 0 = z at HC hlt ⊢
  have hw : IntKind.i64.wrap (z : Int) = (z : Int) := IntWalk.i64_in _ (by omega)
  clear h
  simp only [ptr, Option.map] at HC ⊢
  go_enter Try.func52, Try.ntmps52
  go_wp2_with (go_at_call 53; refine HC.out.mono ?_; rintro e w1 ⟨rfl, hb⟩; obtain ⟨⟨r0, r1, r2⟩, f0, f1, f2⟩ := (HZ.out.keep hb.2 (fun h => by have := h.2; omega)).facts; have HB := Lib.hid hb; clear hb)
  refine bodyPost_ret (v := .agg #[.int .i64 3, .int .i64 (z : Int), .string ⟨#[]⟩]) (by simp [results, Try.results52, go_sem, r0, r1, r2]) rfl ?_
  exact ⟨rfl, HB.out.out3 _ _ _⟩
end Go.Proofs.Ytiilhnedflmgoaa
