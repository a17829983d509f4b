/-
RA
-/
import Derived.Test.YtdhgbkibbileiaaGreatPE
import Derived.Test.YtdhgbkibbileiaaGreatPG
import Derived.Test.YtdhgbkibbileiaaGreatPJ
namespace Go.Proofs.YtdhgbkibbileiaaGreat
open Go.RowKit
structure LV where
 t : Nat
 a : Nat
 b : Nat
 z : Bool
def LV.agg (x : LV) : Value := .agg #[.int .u32 (x.t : Int), .int .u64 (x.a : Int), .int .u64 (x.b : Int), .bool x.z]
structure LV.In (_ : World) (_ : Nat → Prop) (x : LV) : Prop where
 t : x.t < 4294967296
 a : x.a < 18446744073709551616
 b : x.b < 18446744073709551616
structure DV where
 t : Nat
 a : Nat
def DV.agg (x : DV) : Value := .agg #[.int .u32 (x.t : Int), .int .u64 (x.a : Int)]
structure DV.In (_ : World) (_ : Nat → Prop) (x : DV) : Prop where
 t : x.t < 4294967296
 a : x.a < 18446744073709551616
structure IV where
 t : Nat
 p : PV
def IV.agg (x : IV) : Value := .agg #[.int .u32 (x.t : Int), .int .i64 x.p.k, .int .u64 (x.p.s : Int), .int .u32 (x.p.x : Int), .slice x.p.A x.p.n x.p.c]
structure IV.In (w : World) (S : Nat → Prop) (x : IV) : Prop where
 t : x.t < 4294967296
 p : x.p.In w S S
section
variable {w w' : World} {S U S' : Nat → Prop}
theorem LV.In.keep {x : LV} (h : x.In w S) (_ : Fr w w' U) (_ : ∀ b, S b → ¬ U b) : x.In w' S := ⟨h.t, h.a, h.b⟩
theorem LV.In.mono {x : LV} (h : x.In w S) (_ : ∀ b, b < w.heap.size → S b → S' b) : x.In w S' := ⟨h.t, h.a, h.b⟩
theorem DV.In.keep {x : DV} (h : x.In w S) (_ : Fr w w' U) (_ : ∀ b, S b → ¬ U b) : x.In w' S := ⟨h.t, h.a⟩
theorem DV.In.mono {x : DV} (h : x.In w S) (_ : ∀ b, b < w.heap.size → S b → S' b) : x.In w S' := ⟨h.t, h.a⟩
theorem IV.In.keep {x : IV} (h : x.In w S) (hf : Fr w w' U) (hd : ∀ b, S b → ¬ U b) : x.In w' S := ⟨h.t, h.p.keep hf hd hd⟩
theorem IV.In.mono {x : IV} (h : x.In w S) (hd : ∀ b, b < w.heap.size → S b → S' b) : x.In w S' := ⟨h.t, h.p.mono hd hd⟩
end
def LVR (w : World) (S : Nat → Prop) (A : Option Addr) (n : Nat) (l : List LV) : Prop :=
 l.length = n ∧ (∀ x ∈ l, x.In w S) ∧ n ≤ 9223372036854775807 ∧ (0 < n → ∃ g o, A = some ⟨g, o, none⟩ ∧ g < w.heap.size ∧ S g ∧ ∀ i x, l[i]? = some x → w.cell? ⟨g, o + i * 4, none⟩ = some (.int .u32 (x.t : Int)) ∧ w.cell? ⟨g, o + i * 4 + 1, none⟩ = some (.int .u64 (x.a : Int)) ∧ w.cell? ⟨g, o + i * 4 + 2, none⟩ = some (.int .u64 (x.b : Int)) ∧ w.cell? ⟨g, o + i * 4 + 3, none⟩ = some (.bool x.z))
theorem LVR.keep {w w' : World} {S U : Nat → Prop} {A : Option Addr} {n : Nat} {l : List LV} (h : LVR w S A n l) (hf : Fr w w' U) (hS : ∀ b, S b → ¬ U b) : LVR w' S A n l := by
 obtain ⟨h1, h2, h3, h4⟩ := h
 refine ⟨h1, fun x hx => (h2 x hx).keep hf hS, h3, fun hn => ?_⟩
 obtain ⟨g, o, e, hg, hs, hc⟩ := h4 hn
 refine ⟨g, o, e, Nat.lt_of_lt_of_le hg hf.size, hs, fun i x hi => ?_⟩
 have hb := hf.block g hg (hS g hs)
 obtain ⟨k0, k1, k2, k3⟩ := hc i x hi
 exact ⟨(World.cell?_of_block hb).trans k0, (World.cell?_of_block hb).trans k1, (World.cell?_of_block hb).trans k2, (World.cell?_of_block hb).trans k3⟩
theorem LVR.mono {w : World} {S S' : Nat → Prop} {A : Option Addr} {n : Nat} {l : List LV} (h : LVR w S A n l) (hS : ∀ b, b < w.heap.size → S b → S' b) : LVR w S' A n l := by
 obtain ⟨h1, h2, h3, h4⟩ := h
 refine ⟨h1, fun x hx => (h2 x hx).mono hS, h3, fun hn => ?_⟩
 obtain ⟨g, o, e, hg, hs, hc⟩ := h4 hn
 exact ⟨g, o, e, hg, hS g hg hs, hc⟩
theorem LVR.at_ {w : World} {S : Nat → Prop} {A : Option Addr} {n : Nat} {l : List LV} (h : LVR w S A n l) {i : Nat} (hi : i < n) : ∃ g o x, A = some ⟨g, o, none⟩ ∧ g < w.heap.size ∧ S g ∧ l[i]? = some x ∧ x.In w S ∧
  w.cell? ⟨g, o + i * 4, none⟩ = some (.int .u32 (x.t : Int)) ∧ w.cell? ⟨g, o + i * 4 + 1, none⟩ = some (.int .u64 (x.a : Int)) ∧ w.cell? ⟨g, o + i * 4 + 2, none⟩ = some (.int .u64 (x.b : Int)) ∧ w.cell? ⟨g, o + i * 4 + 3, none⟩ = some (.bool x.z) := by
 obtain ⟨h1, h2, _, h4⟩ := h
 obtain ⟨g, o, e, hg, hs, hc⟩ := h4 (by omega)
 have hl : l[i]? = some l[i] := List.getElem?_eq_getElem (by omega)
 exact ⟨g, o, l[i], e, hg, hs, hl, h2 _ (List.getElem_mem _), hc i _ hl⟩
def DVR (w : World) (S : Nat → Prop) (A : Option Addr) (n : Nat) (l : List DV) : Prop :=
 l.length = n ∧ (∀ x ∈ l, x.In w S) ∧ n ≤ 9223372036854775807 ∧ (0 < n → ∃ g o, A = some ⟨g, o, none⟩ ∧ g < w.heap.size ∧ S g ∧ ∀ i x, l[i]? = some x → w.cell? ⟨g, o + i * 2, none⟩ = some (.int .u32 (x.t : Int)) ∧ w.cell? ⟨g, o + i * 2 + 1, none⟩ = some (.int .u64 (x.a : Int)))
theorem DVR.keep {w w' : World} {S U : Nat → Prop} {A : Option Addr} {n : Nat} {l : List DV} (h : DVR w S A n l) (hf : Fr w w' U) (hS : ∀ b, S b → ¬ U b) : DVR w' S A n l := by
 obtain ⟨h1, h2, h3, h4⟩ := h
 refine ⟨h1, fun x hx => (h2 x hx).keep hf hS, h3, fun hn => ?_⟩
 obtain ⟨g, o, e, hg, hs, hc⟩ := h4 hn
 refine ⟨g, o, e, Nat.lt_of_lt_of_le hg hf.size, hs, fun i x hi => ?_⟩
 have hb := hf.block g hg (hS g hs)
 obtain ⟨k0, k1⟩ := hc i x hi
 exact ⟨(World.cell?_of_block hb).trans k0, (World.cell?_of_block hb).trans k1⟩
theorem DVR.mono {w : World} {S S' : Nat → Prop} {A : Option Addr} {n : Nat} {l : List DV} (h : DVR w S A n l) (hS : ∀ b, b < w.heap.size → S b → S' b) : DVR w S' A n l := by
 obtain ⟨h1, h2, h3, h4⟩ := h
 refine ⟨h1, fun x hx => (h2 x hx).mono hS, h3, fun hn => ?_⟩
 obtain ⟨g, o, e, hg, hs, hc⟩ := h4 hn
 exact ⟨g, o, e, hg, hS g hg hs, hc⟩
theorem DVR.at_ {w : World} {S : Nat → Prop} {A : Option Addr} {n : Nat} {l : List DV} (h : DVR w S A n l) {i : Nat} (hi : i < n) : ∃ g o x, A = some ⟨g, o, none⟩ ∧ g < w.heap.size ∧ S g ∧ l[i]? = some x ∧ x.In w S ∧
  w.cell? ⟨g, o + i * 2, none⟩ = some (.int .u32 (x.t : Int)) ∧ w.cell? ⟨g, o + i * 2 + 1, none⟩ = some (.int .u64 (x.a : Int)) := by
 obtain ⟨h1, h2, _, h4⟩ := h
 obtain ⟨g, o, e, hg, hs, hc⟩ := h4 (by omega)
 have hl : l[i]? = some l[i] := List.getElem?_eq_getElem (by omega)
 exact ⟨g, o, l[i], e, hg, hs, hl, h2 _ (List.getElem_mem _), hc i _ hl⟩
def IVR (w : World) (S : Nat → Prop) (A : Option Addr) (n : Nat) (l : List IV) : Prop :=
 l.length = n ∧ (∀ x ∈ l, x.In w S) ∧ n ≤ 9223372036854775807 ∧ (0 < n → ∃ g o, A = some ⟨g, o, none⟩ ∧ g < w.heap.size ∧ S g ∧ ∀ i x, l[i]? = some x → w.cell? ⟨g, o + i * 5, none⟩ = some (.int .u32 (x.t : Int)) ∧ w.cell? ⟨g, o + i * 5 + 1, none⟩ = some (.int .i64 x.p.k) ∧ w.cell? ⟨g, o + i * 5 + 2, none⟩ = some (.int .u64 (x.p.s : Int)) ∧ w.cell? ⟨g, o + i * 5 + 3, none⟩ = some (.int .u32 (x.p.x : Int)) ∧ w.cell? ⟨g, o + i * 5 + 4, none⟩ = some (.slice x.p.A x.p.n x.p.c))
theorem IVR.keep {w w' : World} {S U : Nat → Prop} {A : Option Addr} {n : Nat} {l : List IV} (h : IVR w S A n l) (hf : Fr w w' U) (hS : ∀ b, S b → ¬ U b) : IVR w' S A n l := by
 obtain ⟨h1, h2, h3, h4⟩ := h
 refine ⟨h1, fun x hx => (h2 x hx).keep hf hS, h3, fun hn => ?_⟩
 obtain ⟨g, o, e, hg, hs, hc⟩ := h4 hn
 refine ⟨g, o, e, Nat.lt_of_lt_of_le hg hf.size, hs, fun i x hi => ?_⟩
 have hb := hf.block g hg (hS g hs)
 obtain ⟨k0, k1, k2, k3, k4⟩ := hc i x hi
 exact ⟨(World.cell?_of_block hb).trans k0, (World.cell?_of_block hb).trans k1, (World.cell?_of_block hb).trans k2, (World.cell?_of_block hb).trans k3, (World.cell?_of_block hb).trans k4⟩
theorem IVR.mono {w : World} {S S' : Nat → Prop} {A : Option Addr} {n : Nat} {l : List IV} (h : IVR w S A n l) (hS : ∀ b, b < w.heap.size → S b → S' b) : IVR w S' A n l := by
 obtain ⟨h1, h2, h3, h4⟩ := h
 refine ⟨h1, fun x hx => (h2 x hx).mono hS, h3, fun hn => ?_⟩
 obtain ⟨g, o, e, hg, hs, hc⟩ := h4 hn
 exact ⟨g, o, e, hg, hS g hg hs, hc⟩
theorem IVR.at_ {w : World} {S : Nat → Prop} {A : Option Addr} {n : Nat} {l : List IV} (h : IVR w S A n l) {i : Nat} (hi : i < n) : ∃ g o x, A = some ⟨g, o, none⟩ ∧ g < w.heap.size ∧ S g ∧ l[i]? = some x ∧ x.In w S ∧
  w.cell? ⟨g, o + i * 5, none⟩ = some (.int .u32 (x.t : Int)) ∧ w.cell? ⟨g, o + i * 5 + 1, none⟩ = some (.int .i64 x.p.k) ∧ w.cell? ⟨g, o + i * 5 + 2, none⟩ = some (.int .u64 (x.p.s : Int)) ∧ w.cell? ⟨g, o + i * 5 + 3, none⟩ = some (.int .u32 (x.p.x : Int)) ∧ w.cell? ⟨g, o + i * 5 + 4, none⟩ = some (.slice x.p.A x.p.n x.p.c) := by
 obtain ⟨h1, h2, _, h4⟩ := h
 obtain ⟨g, o, e, hg, hs, hc⟩ := h4 (by omega)
 have hl : l[i]? = some l[i] := List.getElem?_eq_getElem (by omega)
 exact ⟨g, o, l[i], e, hg, hs, hl, h2 _ (List.getElem_mem _), hc i _ hl⟩
def encL {α : Type} (f : α → List Nat) (l : List α) : List Nat := Cd.vi l.length ++ l.flatMap f
def encC (c : CE) : List Nat := Cd.vi c.d.length ++ if c.u then Cd.vi c.k ++ c.d else []
def kb (k : Int) : Nat := (k % 256).toNat
def ub (k : Int) : Nat := (k % 18446744073709551616).toNat
def encP (k : Int) (x : Nat) (es : List CE) : List Nat := Cd.fixB 1 (kb k) ++ (Cd.vi x ++ encL encC es)
def encI (i : IV) : List Nat := Cd.vi i.t ++ encP i.p.k i.p.x i.p.es
def encV (x : LV) : List Nat := Cd.vi x.t ++ (Cd.vi x.a ++ (Cd.vi x.b ++ Cd.fixB 1 (if x.z then 1 else 0)))
def encD (x : DV) : List Nat := Cd.vi x.t ++ Cd.vi x.a
def encO (k s : Int) (t : Nat) (d : List Nat) : List Nat := Cd.fixB 1 (kb k) ++ (Cd.vi (ub s) ++ (Cd.vi t ++ Cd.tx d))
theorem kb_lt (k : Int) : kb k < 256 := by unfold kb; omega
theorem ub_lt (k : Int) : ub k < 18446744073709551616 := by unfold ub; omega
theorem wrap_kb (k : Int) : IntKind.u8.wrap k = ((kb k : Nat) : Int) := by rw [IntKind.wrap_u8]; unfold kb; omega
theorem vi_len (x : Nat) (h : x < 18446744073709551616) : (Cd.vi x).length ≤ 10 := by
 have key : ∀ (k x : Nat), x < 128 ^ (k + 1) → (Cd.vi x).length ≤ k + 1 := by
  intro k
  induction k with
  | zero => intro x hx; rw [Cd.vi_small (by omega)]; simp
  | succ k ih =>
    intro x hx
    rcases Nat.lt_or_ge x 128 with h1 | h1
    ·rw [Cd.vi_small h1]; simp
    ·rw [Cd.vi_big h1, List.length_cons]
     have := ih (x / 128) (by rw [Nat.pow_succ] at hx; omega)
     omega
 exact key 9 x (by omega)
theorem flat_len {α : Type} (f : α → List Nat) (m : Nat) : ∀ l : List α, (∀ x ∈ l, (f x).length ≤ m) → (l.flatMap f).length ≤ l.length * m
 | [], _ => by simp
 | a :: r, h => by
  have h1 := h a List.mem_cons_self
  have h2 := flat_len f m r fun x hx => h x (List.mem_cons_of_mem _ hx)
  rw [List.flatMap_cons, List.length_append, List.length_cons, Nat.add_mul]
  omega
theorem flat_take {α : Type} (f : α → List Nat) {l : List α} {i : Nat} {x : α} (h : l[i]? = some x) : (l.take (i + 1)).flatMap f = (l.take i).flatMap f ++ f x := by
 have hi : i < l.length := by
  rcases Nat.lt_or_ge i l.length with h' | h'
  ·exact h'
  ·rw [List.getElem?_eq_none h'] at h; cases h
 have e : l[i] = x := by rw [List.getElem?_eq_getElem hi] at h; injection h
 rw [List.take_succ_eq_append_getElem hi, List.flatMap_append, e]
 simp
theorem flat_mem {α : Type} (f : α → List Nat) {l : List α} {i : Nat} {m : Nat} (h : ∀ x ∈ l, (f x).length ≤ m) (hi : i ≤ l.length) : ((l.take i).flatMap f).length ≤ l.length * m := by
 have h1 := flat_len f m (l.take i) fun x hx => h x (List.mem_of_mem_take hx)
 rw [List.length_take] at h1
 exact Nat.le_trans h1 (Nat.mul_le_mul_right _ (by omega))
theorem Wr.tight {w : World} {S : Nat → Prop} {p : Option Nat} {ok : Bool} {l : List Nat} (h : Wr w S p ok l) : Wr w (fun b => S b ∧ b < w.heap.size) p ok l := h.mono fun _ hlt hb => ⟨hb, hlt⟩
theorem Wrote.get {w w' : World} {S : Nat → Prop} {g : Nat} {l k : List Nat} (h : Wrote w S (some g) true l k w') : Wr w' (Up S w) (some g) true (l ++ k) ∧ Fr w w' S := h
theorem Wrote.mk {w w' : World} {S : Nat → Prop} {g : Nat} {l k : List Nat} (h : Wr w' (Up S w) (some g) true (l ++ k)) (hf : Fr w w' S) : Wrote w S (some g) true l k w' := ⟨h, hf⟩
def WG (W : World) (S K : Nat → Prop) (g : Nat) (wr : World) (l : List Nat) : Prop :=
 (∃ S' : Nat → Prop, Wr wr S' (some g) true l ∧ ∀ b, S' b → ((S b ∨ W.heap.size ≤ b) ∧ b < wr.heap.size) ∧ ¬ K b) ∧ (∀ b, K b → b < wr.heap.size) ∧ Fr W wr S
theorem WG.start {W : World} {S K : Nat → Prop} {g : Nat} {l : List Nat} (h : Wr W S (some g) true l) (hK : ∀ b, K b → b < W.heap.size ∧ ¬ S b) : WG W S K g W l :=
 ⟨⟨_, h.tight, fun b hb => ⟨⟨Or.inl hb.1, hb.2⟩, fun hk => (hK b hk).2 hb.1⟩⟩, fun b hk => (hK b hk).1, Fr.refl _ _⟩
theorem WG.call {W wr : World} {S K : Nat → Prop} {g : Nat} {l : List Nat} (h : WG W S K g wr l) : ∃ S' : Nat → Prop, Wr wr S' (some g) true l ∧ (∀ b, K b → b < wr.heap.size ∧ ¬ S' b) ∧
  ∀ k w', Wrote wr S' (some g) true l k w' → WG W S K g w' (l ++ k) ∧ Fr wr w' (fun b => ¬ K b) := by
 obtain ⟨⟨S', h1, h2⟩, h3, h4⟩ := h
 refine ⟨S', h1, fun b hb => ⟨h3 b hb, fun hs => (h2 b hs).2 hb⟩, fun k w' hw => ⟨⟨⟨fun b => Up S' wr b ∧ b < w'.heap.size, hw.get.1.tight, fun b hb => ⟨⟨?_, hb.2⟩, fun hk => ?_⟩⟩, fun b hb => Nat.lt_of_lt_of_le (h3 b hb) hw.get.2.size, h4.trans hw.get.2 fun b hb => (h2 b hb).1.1⟩, hw.get.2.mono fun b _ hb => (h2 b hb).2⟩⟩
 ·rcases hb.1 with h | h
  ·exact (h2 b h).1.1
  ·exact Or.inr (Nat.le_trans h4.size h)
 ·rcases hb.1 with h | h
  ·exact (h2 b h).2 hk
  ·have := h3 b hk; omega
theorem WG.wrote {W wr : World} {S K : Nat → Prop} {g : Nat} {l k : List Nat} (h : WG W S K g wr (l ++ k)) : Wrote W S (some g) true l k wr := by
 obtain ⟨⟨S', h1, h2⟩, _, h3⟩ := h
 exact ⟨h1.mono fun b _ hb => (h2 b hb).1.1, h3⟩
theorem WG.alloc {W wr : World} {S K : Nat → Prop} {g : Nat} {l : List Nat} (h : WG W S K g wr l) (o : Obj) : WG W S (fun b => K b ∨ b = wr.heap.size) g (wr.alloc o) l := by
 obtain ⟨⟨S', h1, h2⟩, h3, h4⟩ := h
 refine ⟨⟨S', h1.keep ((Fr.refl wr No).alloc o) (fun _ _ hn => hn), fun b hb => ⟨⟨(h2 b hb).1.1, by have := (h2 b hb).1.2; simp; omega⟩, fun hk => ?_⟩⟩, fun b hk => ?_, h4.alloc o⟩
 ·rcases hk with hk | hk
  ·exact (h2 b hb).2 hk
  ·have := (h2 b hb).1.2; omega
 ·rcases hk with hk | hk
  ·have := h3 b hk; simp; omega
  ·simp; omega
theorem WG.less {W wr : World} {S K K' : Nat → Prop} {g : Nat} {l : List Nat} (h : WG W S K g wr l) (hK : ∀ b, K' b → K b) : WG W S K' g wr l := by
 obtain ⟨⟨S', h1, h2⟩, h3, h4⟩ := h
 exact ⟨⟨S', h1, fun b hb => ⟨(h2 b hb).1, fun hk => (h2 b hb).2 (hK b hk)⟩⟩, fun b hk => h3 b (hK b hk), h4⟩
end Go.Proofs.YtdhgbkibbileiaaGreat
