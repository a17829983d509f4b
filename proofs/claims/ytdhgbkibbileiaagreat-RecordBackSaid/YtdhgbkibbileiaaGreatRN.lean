/-
  THE READERS OF A RECORD'S PARTS.
-/
import Derived.Test.YtdhgbkibbileiaaGreatRA
import Derived.Handy
namespace Go.Proofs.YtdhgbkibbileiaaGreat
open Go.RowKit

/-- a step of a reader: the value, whether it is still sound, what is left -/
def rI (ok : Bool) (l : List Nat) : Nat × Bool × List Nat := (valO ok (Cd.front l) 0, okO ok (Cd.front l), leftO ok l (Cd.front l))
def rB (ok : Bool) (l : List Nat) : Nat × Bool × List Nat := (valO ok (fixO l 1) 0, okO ok (fixO l 1), leftO ok l (fixO l 1))
def n32 (n : Nat) : Nat := n % 4294967296
theorem wrap_n32 (n : Nat) : IntKind.u32.wrap (n : Int) = ((n32 n : Nat) : Int) := by rw [IntKind.wrap_u32]; unfold n32; omega
/-- what a reading call leaves -/
def Left (w : World) (S : Nat → Prop) (p : Option Nat) (s : Bool × List Nat) (w' : World) : Prop := Rd w' S p s.1 s.2 ∧ Fr w w' S
/-- what a reading function goes on with: begun at W, now at wr -/
def RG (W : World) (S : Nat → Prop) (p : Option Nat) (wr : World) (ok : Bool) (l : List Nat) : Prop := Rd wr S p ok l ∧ (∀ b, S b → b < W.heap.size) ∧ Fr W wr S
section
variable {W wr w' : World} {S : Nat → Prop} {p : Option Nat} {ok ok' : Bool} {l l' : List Nat}
theorem RG.start (h : Rd W S p ok l) (hS : ∀ b, S b → b < W.heap.size) : RG W S p W ok l := ⟨h, hS, Fr.refl _ _⟩
theorem RG.alloc (h : RG W S p wr ok l) (o : Obj) : RG W S p (wr.alloc o) ok l := ⟨h.1.keep ((Fr.refl wr No).alloc o) (fun _ _ hn => hn), h.2.1, h.2.2.alloc o⟩
theorem RG.drew (h : RG W S p wr ok l) : RG W S p wr.drew ok l := ⟨h.1.drew, h.2.1, h.2.2.drew⟩
theorem RG.set (h : RG W S p wr ok l) {g : Nat} (hg : W.heap.size ≤ g) (i : Nat) (u : Value) : RG W S p (wr.setCell ⟨g, i, none⟩ u) ok l :=
  ⟨h.1.keep ((Fr.refl wr (fun b => b = g)).setCell (p := ⟨g, i, none⟩) (Or.inl rfl) u) (fun b hb hn => by have := h.2.1 b hb; subst hn; omega), h.2.1, h.2.2.setCell (p := ⟨g, i, none⟩) (Or.inr hg) u⟩
theorem RG.call (h : RG W S p wr ok l) (h1 : Rd w' S p ok' l') (h2 : Fr wr w' S) : RG W S p w' ok' l' := ⟨h1, h.2.1, h.2.2.same h2⟩
theorem RG.rd (h : RG W S p wr ok l) : Rd wr S p ok l := h.1
theorem RG.size (h : RG W S p wr ok l) : W.heap.size ≤ wr.heap.size := h.2.2.size
theorem RG.not (h : RG W S p wr ok l) {g : Nat} (hg : W.heap.size ≤ g) : ¬ S g := fun hs => by have := h.2.1 g hs; omega
end
def rD (ok : Bool) (l : List Nat) : DV × Bool × List Nat :=
  let a := rI ok l
  let b := rI a.2.1 a.2.2
  (⟨n32 a.1, b.1⟩, b.2)
def rV (ok : Bool) (l : List Nat) : LV × Bool × List Nat :=
  let a := rI ok l
  let b := rI a.2.1 a.2.2
  let c := rI b.2.1 b.2.2
  let d := rB c.2.1 c.2.2
  (⟨n32 a.1, b.1, c.1, decide (d.1 = 1)⟩, d.2)
theorem rI_any (w : World) (S : Nat → Prop) (p : Option Nat) (ok : Bool) (l : List Nat) (h : Rd w S p ok l) (x : Nat) (ok' : Bool) (l' : List Nat) (hx : rI ok l = (x, ok', l')) :
    Calls Tryz.prog 108 #[ptr p] w fun e w' => e = .returned (.int .u64 (x : Int)) ∧ Rd w' S p ok' l' ∧ Fr w w' S := by
  unfold rI at hx
  injection hx with h1 h2
  injection h2 with h2 h3
  subst h1 h2 h3
  exact uint_any w S p ok l h
theorem rB_any (w : World) (S : Nat → Prop) (p : Option Nat) (ok : Bool) (l : List Nat) (h : Rd w S p ok l) (x : Nat) (ok' : Bool) (l' : List Nat) (hx : rB ok l = (x, ok', l')) :
    Calls Tryz.prog 52 #[ptr p] w fun e w' => e = .returned (.int .u8 (x : Int)) ∧ Rd w' S p ok' l' ∧ Fr w w' S := by
  unfold rB at hx
  injection hx with h1 h2
  injection h2 with h2 h3
  subst h1 h2 h3
  exact ru8_any w S p ok l h
set_option maxHeartbeats 1000000 in
set_option maxRecDepth 100000 in
theorem readDirty_any (w : World) (S : Nat → Prop) (p : Option Nat) (ok : Bool) (l : List Nat) (h : Rd w S p ok l) (hS : ∀ b, S b → b < w.heap.size) (x : DV) (ok' : Bool) (l' : List Nat) (hx : rD ok l = (x, ok', l')) :
    Calls Tryz.prog 91 #[ptr p] w fun e w' => e = .returned x.agg ∧ Rd w' S p ok' l' ∧ Fr w w' S := by
  obtain ⟨x1, o1, l1, e1⟩ : ∃ x1 o1 l1, rI ok l = (x1, o1, l1) := ⟨_, _, _, rfl⟩
  obtain ⟨x2, o2, l2, e2⟩ : ∃ x2 o2 l2, rI o1 l1 = (x2, o2, l2) := ⟨_, _, _, rfl⟩
  simp only [rD, e1, e2] at hx
  injection hx with hx hx2
  injection hx2 with hx2 hx3
  subst hx hx2 hx3
  obtain ⟨u1, hu1⟩ : ∃ u1, u1 = n32 x1 := ⟨_, rfl⟩
  have g1 := wrap_n32 x1
  rw [← hu1] at g1 ⊢
  unfold DV.agg
  have H1 := Lib.hid (fun W (h : Rd W S p ok l) => rI_any W S p ok l h _ _ _ e1)
  have H2 := Lib.hid (fun W (h : Rd W S p o1 l1) => rI_any W S p o1 l1 h _ _ _ e2)
  have HR0 := Lib.hid ((RG.start h hS).alloc (.cells #[.int .u32 0, .int .u64 0] 64))
  have HD0 := Lib.hid (Blk.new w 64 #[.int .u32 0, .int .u64 0])
  clear e1 e2 h hS hu1
  go_enter Tryz.func91, Tryz.ntmps91
  go_wp2_with fail
  with_reducible refine (H1.out _ HR0.out.rd).mono ?_
  rintro e w1 ⟨rfl, hr, hf⟩
  have HQ := Lib.hid (HR0.out.call hr hf)
  have HG : Hid (w.heap.size ≤ w1.heap.size) := Lib.hid HQ.out.size
  have HD1 := Lib.hid ((HD0.out.keep hf (HR0.out.not (Nat.le_refl _))).alloc (.cells #[.int .u32 (u1 : Int), .int .u64 0] 64))
  have HB1 := Lib.hid (Blk.new w1 64 #[.int .u32 (u1 : Int), .int .u64 0])
  have HN : Hid (w.heap.size ≠ w1.heap.size) := Lib.hid (by have := (HD0.out.keep hf (HR0.out.not (Nat.le_refl _))).lt; omega)
  have HR1 := Lib.hid (HQ.out.alloc (.cells #[.int .u32 (u1 : Int), .int .u64 0] 64))
  clear hr hf HQ HD0
  go_wp2_with fail
  with_reducible refine (H2.out _ HR1.out.rd).mono ?_
  rintro e w2 ⟨rfl, hr, hf⟩
  have hb := HB1.out.keep hf (HR1.out.not HG.out)
  have yc := hb.cell 1
  have yf := hb.frozen 1
  simp only [List.getElem?_toArray, List.getElem?_cons_zero, List.getElem?_cons_succ] at yc
  have HB2 : Hid (Blk (w2.setCell ⟨w1.heap.size, 1, none⟩ (.int .u64 (x2 : Int))) w1.heap.size 64 #[.int .u32 (u1 : Int), .int .u64 (x2 : Int)]) := Lib.hid (hb.set_ 1 (.int .u64 (x2 : Int)))
  have HD2 := Lib.hid ((HD1.out.keep hf (HR1.out.not (Nat.le_refl _))).far (p := ⟨w1.heap.size, 1, none⟩) HN.out (.int .u64 (x2 : Int)))
  have HR2 := Lib.hid ((HR1.out.call hr hf).set HG.out 1 (.int .u64 (x2 : Int)))
  clear hr hf hb
  have E0 : Hid (Blk _ w.heap.size 64 #[.int .u32 0, .int .u64 0]) := HD2
  have a0 := E0.out.cell 0
  have f0 := E0.out.frozen 0
  have E1 : Hid (Blk _ w.heap.size 64 #[.int .u32 (u1 : Int), .int .u64 0]) := Lib.hid (E0.out.set_ 0 (.int .u32 (u1 : Int)))
  have a1 := E1.out.cell 1
  have f1 := E1.out.frozen 1
  have E2 : Hid (Blk _ w.heap.size 64 #[.int .u32 (u1 : Int), .int .u64 (x2 : Int)]) := Lib.hid (E1.out.set_ 1 (.int .u64 (x2 : Int)))
  have b0 := E1.out.cell 0
  have b1 := E2.out.cell 1
  have c0 := HB2.out.cell 0
  have c1 := HB2.out.cell 1
  simp only [List.getElem?_toArray, List.getElem?_cons_zero, List.getElem?_cons_succ] at a0 b0 c0 a1 b1 c1
  have HZ := Lib.hid ((HR2.out.set (Nat.le_refl _) 0 (.int .u32 (u1 : Int))).set (Nat.le_refl _) 1 (.int .u64 (x2 : Int)))
  go_wp2_with fail
  refine bodyPost_ret (by simp [results, Tryz.results91, go_sem, b0, b1]; try rfl) rfl ?_
  exact ⟨rfl, HZ.out.rd, HZ.out.2.2⟩
set_option maxHeartbeats 1000000 in
set_option maxRecDepth 100000 in
theorem readLive_any (w : World) (S : Nat → Prop) (p : Option Nat) (ok : Bool) (l : List Nat) (h : Rd w S p ok l) (hS : ∀ b, S b → b < w.heap.size) (x : LV) (ok' : Bool) (l' : List Nat) (hx : rV ok l = (x, ok', l')) :
    Calls Tryz.prog 87 #[ptr p] w fun e w' => e = .returned x.agg ∧ Rd w' S p ok' l' ∧ Fr w w' S := by
  obtain ⟨x1, o1, l1, e1⟩ : ∃ x1 o1 l1, rI ok l = (x1, o1, l1) := ⟨_, _, _, rfl⟩
  obtain ⟨x2, o2, l2, e2⟩ : ∃ x2 o2 l2, rI o1 l1 = (x2, o2, l2) := ⟨_, _, _, rfl⟩
  obtain ⟨x3, o3, l3, e3⟩ : ∃ x3 o3 l3, rI o2 l2 = (x3, o3, l3) := ⟨_, _, _, rfl⟩
  obtain ⟨x4, o4, l4, e4⟩ : ∃ x4 o4 l4, rB o3 l3 = (x4, o4, l4) := ⟨_, _, _, rfl⟩
  simp only [rV, e1, e2, e3, e4] at hx
  injection hx with hx hx2
  injection hx2 with hx2 hx3
  subst hx hx2 hx3
  obtain ⟨u1, hu1⟩ : ∃ u1, u1 = n32 x1 := ⟨_, rfl⟩
  have g1 := wrap_n32 x1
  rw [← hu1] at g1 ⊢
  unfold LV.agg
  obtain ⟨z, hz⟩ : ∃ z, z = decide (x4 = 1) := ⟨_, rfl⟩
  have g4 : ((x4 : Int) == 1) = z := by rw [hz, Bool.eq_iff_iff, beq_iff_eq, decide_eq_true_eq]; omega
  simp only [← hz]
  have H1 := Lib.hid (fun W (h : Rd W S p ok l) => rI_any W S p ok l h _ _ _ e1)
  have H2 := Lib.hid (fun W (h : Rd W S p o1 l1) => rI_any W S p o1 l1 h _ _ _ e2)
  have H3 := Lib.hid (fun W (h : Rd W S p o2 l2) => rI_any W S p o2 l2 h _ _ _ e3)
  have H4 := Lib.hid (fun W (h : Rd W S p o3 l3) => rB_any W S p o3 l3 h _ _ _ e4)
  have HR0 := Lib.hid ((RG.start h hS).alloc (.cells #[.int .u32 0, .int .u64 0, .int .u64 0, .bool false] 62))
  have HD0 := Lib.hid (Blk.new w 62 #[.int .u32 0, .int .u64 0, .int .u64 0, .bool false])
  clear e1 e2 e3 e4 h hS hu1 hz
  go_enter Tryz.func87, Tryz.ntmps87
  go_wp2_with fail
  with_reducible refine (H1.out _ HR0.out.rd).mono ?_
  rintro e w1 ⟨rfl, hr, hf⟩
  have HQ := Lib.hid (HR0.out.call hr hf)
  have HG : Hid (w.heap.size ≤ w1.heap.size) := Lib.hid HQ.out.size
  have HD1 := Lib.hid ((HD0.out.keep hf (HR0.out.not (Nat.le_refl _))).alloc (.cells #[.int .u32 (u1 : Int), .int .u64 0, .int .u64 0, .bool false] 62))
  have HB1 := Lib.hid (Blk.new w1 62 #[.int .u32 (u1 : Int), .int .u64 0, .int .u64 0, .bool false])
  have HN : Hid (w.heap.size ≠ w1.heap.size) := Lib.hid (by have := (HD0.out.keep hf (HR0.out.not (Nat.le_refl _))).lt; omega)
  have HR1 := Lib.hid (HQ.out.alloc (.cells #[.int .u32 (u1 : Int), .int .u64 0, .int .u64 0, .bool false] 62))
  clear hr hf HQ HD0
  go_wp2_with fail
  with_reducible refine (H2.out _ HR1.out.rd).mono ?_
  rintro e w2 ⟨rfl, hr, hf⟩
  have hb := HB1.out.keep hf (HR1.out.not HG.out)
  have yc := hb.cell 1
  have yf := hb.frozen 1
  simp only [List.getElem?_toArray, List.getElem?_cons_zero, List.getElem?_cons_succ] at yc
  have HB2 : Hid (Blk (w2.setCell ⟨w1.heap.size, 1, none⟩ (.int .u64 (x2 : Int))) w1.heap.size 62 #[.int .u32 (u1 : Int), .int .u64 (x2 : Int), .int .u64 0, .bool false]) := Lib.hid (hb.set_ 1 (.int .u64 (x2 : Int)))
  have HD2 := Lib.hid ((HD1.out.keep hf (HR1.out.not (Nat.le_refl _))).far (p := ⟨w1.heap.size, 1, none⟩) HN.out (.int .u64 (x2 : Int)))
  have HR2 := Lib.hid ((HR1.out.call hr hf).set HG.out 1 (.int .u64 (x2 : Int)))
  clear hr hf hb
  go_wp2_with fail
  with_reducible refine (H3.out _ HR2.out.rd).mono ?_
  rintro e w3 ⟨rfl, hr, hf⟩
  have hb := HB2.out.keep hf (HR2.out.not HG.out)
  have yc := hb.cell 2
  have yf := hb.frozen 2
  simp only [List.getElem?_toArray, List.getElem?_cons_zero, List.getElem?_cons_succ] at yc
  have HB3 : Hid (Blk (w3.setCell ⟨w1.heap.size, 2, none⟩ (.int .u64 (x3 : Int))) w1.heap.size 62 #[.int .u32 (u1 : Int), .int .u64 (x2 : Int), .int .u64 (x3 : Int), .bool false]) := Lib.hid (hb.set_ 2 (.int .u64 (x3 : Int)))
  have HD3 := Lib.hid ((HD2.out.keep hf (HR2.out.not (Nat.le_refl _))).far (p := ⟨w1.heap.size, 2, none⟩) HN.out (.int .u64 (x3 : Int)))
  have HR3 := Lib.hid ((HR2.out.call hr hf).set HG.out 2 (.int .u64 (x3 : Int)))
  clear hr hf hb
  go_wp2_with fail
  with_reducible refine (H4.out _ HR3.out.rd).mono ?_
  rintro e w4 ⟨rfl, hr, hf⟩
  have hb := HB3.out.keep hf (HR3.out.not HG.out)
  have yc := hb.cell 3
  have yf := hb.frozen 3
  simp only [List.getElem?_toArray, List.getElem?_cons_zero, List.getElem?_cons_succ] at yc
  have HB4 : Hid (Blk (w4.setCell ⟨w1.heap.size, 3, none⟩ (.bool z)) w1.heap.size 62 #[.int .u32 (u1 : Int), .int .u64 (x2 : Int), .int .u64 (x3 : Int), .bool z]) := Lib.hid (hb.set_ 3 (.bool z))
  have HD4 := Lib.hid ((HD3.out.keep hf (HR3.out.not (Nat.le_refl _))).far (p := ⟨w1.heap.size, 3, none⟩) HN.out (.bool z))
  have HR4 := Lib.hid ((HR3.out.call hr hf).set HG.out 3 (.bool z))
  clear hr hf hb
  have E0 : Hid (Blk _ w.heap.size 62 #[.int .u32 0, .int .u64 0, .int .u64 0, .bool false]) := HD4
  have a0 := E0.out.cell 0
  have f0 := E0.out.frozen 0
  have E1 : Hid (Blk _ w.heap.size 62 #[.int .u32 (u1 : Int), .int .u64 0, .int .u64 0, .bool false]) := Lib.hid (E0.out.set_ 0 (.int .u32 (u1 : Int)))
  have a1 := E1.out.cell 1
  have f1 := E1.out.frozen 1
  have E2 : Hid (Blk _ w.heap.size 62 #[.int .u32 (u1 : Int), .int .u64 (x2 : Int), .int .u64 0, .bool false]) := Lib.hid (E1.out.set_ 1 (.int .u64 (x2 : Int)))
  have a2 := E2.out.cell 2
  have f2 := E2.out.frozen 2
  have E3 : Hid (Blk _ w.heap.size 62 #[.int .u32 (u1 : Int), .int .u64 (x2 : Int), .int .u64 (x3 : Int), .bool false]) := Lib.hid (E2.out.set_ 2 (.int .u64 (x3 : Int)))
  have a3 := E3.out.cell 3
  have f3 := E3.out.frozen 3
  have E4 : Hid (Blk _ w.heap.size 62 #[.int .u32 (u1 : Int), .int .u64 (x2 : Int), .int .u64 (x3 : Int), .bool z]) := Lib.hid (E3.out.set_ 3 (.bool z))
  have b0 := E1.out.cell 0
  have b1 := E2.out.cell 1
  have b2 := E3.out.cell 2
  have b3 := E4.out.cell 3
  have c0 := HB4.out.cell 0
  have c1 := HB4.out.cell 1
  have c2 := HB4.out.cell 2
  have c3 := HB4.out.cell 3
  simp only [List.getElem?_toArray, List.getElem?_cons_zero, List.getElem?_cons_succ] at a0 b0 c0 a1 b1 c1 a2 b2 c2 a3 b3 c3
  have HZ := Lib.hid ((((HR4.out.set (Nat.le_refl _) 0 (.int .u32 (u1 : Int))).set (Nat.le_refl _) 1 (.int .u64 (x2 : Int))).set (Nat.le_refl _) 2 (.int .u64 (x3 : Int))).set (Nat.le_refl _) 3 (.bool z))
  go_wp2_with fail
  refine bodyPost_ret (by simp [results, Tryz.results87, go_sem, b0, b1, b2, b3]; try rfl) rfl ?_
  exact ⟨rfl, HZ.out.rd, HZ.out.2.2⟩
end Go.Proofs.YtdhgbkibbileiaaGreat
