/-
RN UJ RO RP
-/
import Derived.Test.YtdhgbkibbileiaaGreatRA
import Derived.Handy
import Derived.Test.YtdhgbkibbileiaaGreatRQ
import Derived.Test.YtdhgbkibbileiaaGreatRC
import Derived.Laws.IdiomStrings
set_option maxRecDepth 100000
namespace Go.Proofs.YtdhgbkibbileiaaGreat
open Go.RowKit
def rI (ok : Bool) (l : List Nat) : Nat × Bool × List Nat := (valO ok (Cd.front l) 0, okO ok (Cd.front l), leftO ok l (Cd.front l))
def rB (ok : Bool) (l : List Nat) : Nat × Bool × List Nat := (valO ok (fixO l 1) 0, okO ok (fixO l 1), leftO ok l (fixO l 1))
def n32 (n : Nat) : Nat := n % 4294967296
theorem wrap_n32 (n : Nat) : IntKind.u32.wrap (n : Int) = ((n32 n : Nat) : Int) := by rw [IntKind.wrap_u32]; unfold n32; omega
def RG (W : World) (S : Nat → Prop) (p : Option Nat) (wr : World) (ok : Bool) (l : List Nat) : Prop := Rd wr S p ok l ∧ (∀ b, S b → b < W.heap.size) ∧ Fr W wr S
section
variable {W wr w' : World} {S : Nat → Prop} {p : Option Nat} {ok ok' : Bool} {l l' : List Nat}
theorem RG.start (h : Rd W S p ok l) (hS : ∀ b, S b → b < W.heap.size) : RG W S p W ok l := ⟨h, hS, Fr.refl _ _⟩
theorem RG.alloc (h : RG W S p wr ok l) (o : Obj) : RG W S p (wr.alloc o) ok l := ⟨h.1.keep ((Fr.refl wr No).alloc o) (fun _ _ hn => hn), h.2.1, h.2.2.alloc o⟩
theorem RG.drew (h : RG W S p wr ok l) : RG W S p wr.drew ok l := ⟨h.1.drew, h.2.1, h.2.2.drew⟩
theorem RG.set (h : RG W S p wr ok l) {g : Nat} (hg : W.heap.size ≤ g) (i : Nat) (u : Value) : RG W S p (wr.setCell ⟨g, i, none⟩ u) ok l :=
 ⟨h.1.keep ((Fr.refl wr (fun b => b = g)).setCell (p := ⟨g, i, none⟩) (Or.inl rfl) u) (fun b hb hn => by have := h.2.1 b hb; subst hn; omega), h.2.1, h.2.2.setCell (p := ⟨g, i, none⟩) (Or.inr hg) u⟩
theorem RG.call (h : RG W S p wr ok l) (h1 : Rd w' S p ok' l') (h2 : Fr wr w' S) : RG W S p w' ok' l' := ⟨h1, h.2.1, h.2.2.same h2⟩
theorem RG.rd (h : RG W S p wr ok l) : Rd wr S p ok l := h.1
theorem RG.size (h : RG W S p wr ok l) : W.heap.size ≤ wr.heap.size := h.2.2.size
theorem RG.not (h : RG W S p wr ok l) {g : Nat} (hg : W.heap.size ≤ g) : ¬ S g := fun hs => by have := h.2.1 g hs; omega
end
def rD (ok : Bool) (l : List Nat) : DV × Bool × List Nat :=
 let a := rI ok l
 let b := rI a.2.1 a.2.2
 (⟨n32 a.1, b.1⟩, b.2)
def rV (ok : Bool) (l : List Nat) : LV × Bool × List Nat :=
 let a := rI ok l
 let b := rI a.2.1 a.2.2
 let c := rI b.2.1 b.2.2
 let d := rB c.2.1 c.2.2
 (⟨n32 a.1, b.1, c.1, decide (d.1 = 1)⟩, d.2)
theorem rI_any (w : World) (S : Nat → Prop) (p : Option Nat) (ok : Bool) (l : List Nat) (h : Rd w S p ok l) (x : Nat) (ok' : Bool) (l' : List Nat) (hx : rI ok l = (x, ok', l')) :
  Calls Tryz.prog 108 #[ptr p] w fun e w' => e = .returned (.int .u64 (x : Int)) ∧ Rd w' S p ok' l' ∧ Fr w w' S := by
 unfold rI at hx
 injection hx with h1 h2
 injection h2 with h2 h3
 subst h1 h2 h3
 exact uint_any w S p ok l h
theorem rB_any (w : World) (S : Nat → Prop) (p : Option Nat) (ok : Bool) (l : List Nat) (h : Rd w S p ok l) (x : Nat) (ok' : Bool) (l' : List Nat) (hx : rB ok l = (x, ok', l')) :
  Calls Tryz.prog 52 #[ptr p] w fun e w' => e = .returned (.int .u8 (x : Int)) ∧ Rd w' S p ok' l' ∧ Fr w w' S := by
 unfold rB at hx
 injection hx with h1 h2
 injection h2 with h2 h3
 subst h1 h2 h3
 exact ru8_any w S p ok l h
set_option maxHeartbeats 1000000 in
theorem readDirty_any (w : World) (S : Nat → Prop) (p : Option Nat) (ok : Bool) (l : List Nat) (h : Rd w S p ok l) (hS : ∀ b, S b → b < w.heap.size) (x : DV) (ok' : Bool) (l' : List Nat) (hx : rD ok l = (x, ok', l')) :
  Calls Tryz.prog 91 #[ptr p] w fun e w' => e = .returned x.agg ∧ Rd w' S p ok' l' ∧ Fr w w' S := by
 obtain ⟨x1, o1, l1, e1⟩ : ∃ x1 o1 l1, rI ok l = (x1, o1, l1) := ⟨_, _, _, rfl⟩
 obtain ⟨x2, o2, l2, e2⟩ : ∃ x2 o2 l2, rI o1 l1 = (x2, o2, l2) := ⟨_, _, _, rfl⟩
 simp only [rD, e1, e2] at hx
 injection hx with hx hx2
 injection hx2 with hx2 hx3
 subst hx hx2 hx3
 obtain ⟨u1, hu1⟩ : ∃ u1, u1 = n32 x1 := ⟨_, rfl⟩
 have g1 := wrap_n32 x1
 rw [← hu1] at g1 ⊢
 unfold DV.agg
 have H1 := Lib.hid (fun W (h : Rd W S p ok l) => rI_any W S p ok l h _ _ _ e1)
 have H2 := Lib.hid (fun W (h : Rd W S p o1 l1) => rI_any W S p o1 l1 h _ _ _ e2)
 have HR0 := Lib.hid ((RG.start h hS).alloc (.cells #[.int .u32 0, .int .u64 0] 64))
 have HD0 := Lib.hid (Blk.new w 64 #[.int .u32 0, .int .u64 0])
 clear e1 e2 h hS hu1
 go_enter Tryz.func91, Tryz.ntmps91
 go_wp2_with fail
 with_reducible refine (H1.out _ HR0.out.rd).mono ?_
 rintro e w1 ⟨rfl, hr, hf⟩
 have HQ := Lib.hid (HR0.out.call hr hf)
 have HG : Hid (w.heap.size ≤ w1.heap.size) := Lib.hid HQ.out.size
 have HD1 := Lib.hid ((HD0.out.keep hf (HR0.out.not (Nat.le_refl _))).alloc (.cells #[.int .u32 (u1 : Int), .int .u64 0] 64))
 have HB1 := Lib.hid (Blk.new w1 64 #[.int .u32 (u1 : Int), .int .u64 0])
 have HN : Hid (w.heap.size ≠ w1.heap.size) := Lib.hid (by have := (HD0.out.keep hf (HR0.out.not (Nat.le_refl _))).lt; omega)
 have HR1 := Lib.hid (HQ.out.alloc (.cells #[.int .u32 (u1 : Int), .int .u64 0] 64))
 clear hr hf HQ HD0
 go_wp2_with fail
 with_reducible refine (H2.out _ HR1.out.rd).mono ?_
 rintro e w2 ⟨rfl, hr, hf⟩
 have hb := HB1.out.keep hf (HR1.out.not HG.out)
 have yc := hb.cell 1
 have yf := hb.frozen 1
 simp only [List.getElem?_toArray, List.getElem?_cons_zero, List.getElem?_cons_succ] at yc
 have HB2 : Hid (Blk (w2.setCell ⟨w1.heap.size, 1, none⟩ (.int .u64 (x2 : Int))) w1.heap.size 64 #[.int .u32 (u1 : Int), .int .u64 (x2 : Int)]) := Lib.hid (hb.set_ 1 (.int .u64 (x2 : Int)))
 have HD2 := Lib.hid ((HD1.out.keep hf (HR1.out.not (Nat.le_refl _))).far (p := ⟨w1.heap.size, 1, none⟩) HN.out (.int .u64 (x2 : Int)))
 have HR2 := Lib.hid ((HR1.out.call hr hf).set HG.out 1 (.int .u64 (x2 : Int)))
 clear hr hf hb
 have E0 : Hid (Blk _ w.heap.size 64 #[.int .u32 0, .int .u64 0]) := HD2
 have a0 := E0.out.cell 0
 have f0 := E0.out.frozen 0
 have E1 : Hid (Blk _ w.heap.size 64 #[.int .u32 (u1 : Int), .int .u64 0]) := Lib.hid (E0.out.set_ 0 (.int .u32 (u1 : Int)))
 have a1 := E1.out.cell 1
 have f1 := E1.out.frozen 1
 have E2 : Hid (Blk _ w.heap.size 64 #[.int .u32 (u1 : Int), .int .u64 (x2 : Int)]) := Lib.hid (E1.out.set_ 1 (.int .u64 (x2 : Int)))
 have b0 := E1.out.cell 0
 have b1 := E2.out.cell 1
 have c0 := HB2.out.cell 0
 have c1 := HB2.out.cell 1
 simp only [List.getElem?_toArray, List.getElem?_cons_zero, List.getElem?_cons_succ] at a0 b0 c0 a1 b1 c1
 have HZ := Lib.hid ((HR2.out.set (Nat.le_refl _) 0 (.int .u32 (u1 : Int))).set (Nat.le_refl _) 1 (.int .u64 (x2 : Int)))
 go_wp2_with fail
 refine bodyPost_ret (by simp [results, Tryz.results91, go_sem, b0, b1]; try rfl) rfl ?_
 exact ⟨rfl, HZ.out.rd, HZ.out.2.2⟩
set_option maxHeartbeats 1000000 in
theorem readLive_any (w : World) (S : Nat → Prop) (p : Option Nat) (ok : Bool) (l : List Nat) (h : Rd w S p ok l) (hS : ∀ b, S b → b < w.heap.size) (x : LV) (ok' : Bool) (l' : List Nat) (hx : rV ok l = (x, ok', l')) :
  Calls Tryz.prog 87 #[ptr p] w fun e w' => e = .returned x.agg ∧ Rd w' S p ok' l' ∧ Fr w w' S := by
 obtain ⟨x1, o1, l1, e1⟩ : ∃ x1 o1 l1, rI ok l = (x1, o1, l1) := ⟨_, _, _, rfl⟩
 obtain ⟨x2, o2, l2, e2⟩ : ∃ x2 o2 l2, rI o1 l1 = (x2, o2, l2) := ⟨_, _, _, rfl⟩
 obtain ⟨x3, o3, l3, e3⟩ : ∃ x3 o3 l3, rI o2 l2 = (x3, o3, l3) := ⟨_, _, _, rfl⟩
 obtain ⟨x4, o4, l4, e4⟩ : ∃ x4 o4 l4, rB o3 l3 = (x4, o4, l4) := ⟨_, _, _, rfl⟩
 simp only [rV, e1, e2, e3, e4] at hx
 injection hx with hx hx2
 injection hx2 with hx2 hx3
 subst hx hx2 hx3
 obtain ⟨u1, hu1⟩ : ∃ u1, u1 = n32 x1 := ⟨_, rfl⟩
 have g1 := wrap_n32 x1
 rw [← hu1] at g1 ⊢
 unfold LV.agg
 obtain ⟨z, hz⟩ : ∃ z, z = decide (x4 = 1) := ⟨_, rfl⟩
 have g4 : ((x4 : Int) == 1) = z := by rw [hz, Bool.eq_iff_iff, beq_iff_eq, decide_eq_true_eq]; omega
 simp only [← hz]
 have H1 := Lib.hid (fun W (h : Rd W S p ok l) => rI_any W S p ok l h _ _ _ e1)
 have H2 := Lib.hid (fun W (h : Rd W S p o1 l1) => rI_any W S p o1 l1 h _ _ _ e2)
 have H3 := Lib.hid (fun W (h : Rd W S p o2 l2) => rI_any W S p o2 l2 h _ _ _ e3)
 have H4 := Lib.hid (fun W (h : Rd W S p o3 l3) => rB_any W S p o3 l3 h _ _ _ e4)
 have HR0 := Lib.hid ((RG.start h hS).alloc (.cells #[.int .u32 0, .int .u64 0, .int .u64 0, .bool false] 62))
 have HD0 := Lib.hid (Blk.new w 62 #[.int .u32 0, .int .u64 0, .int .u64 0, .bool false])
 clear e1 e2 e3 e4 h hS hu1 hz
 go_enter Tryz.func87, Tryz.ntmps87
 go_wp2_with fail
 with_reducible refine (H1.out _ HR0.out.rd).mono ?_
 rintro e w1 ⟨rfl, hr, hf⟩
 have HQ := Lib.hid (HR0.out.call hr hf)
 have HG : Hid (w.heap.size ≤ w1.heap.size) := Lib.hid HQ.out.size
 have HD1 := Lib.hid ((HD0.out.keep hf (HR0.out.not (Nat.le_refl _))).alloc (.cells #[.int .u32 (u1 : Int), .int .u64 0, .int .u64 0, .bool false] 62))
 have HB1 := Lib.hid (Blk.new w1 62 #[.int .u32 (u1 : Int), .int .u64 0, .int .u64 0, .bool false])
 have HN : Hid (w.heap.size ≠ w1.heap.size) := Lib.hid (by have := (HD0.out.keep hf (HR0.out.not (Nat.le_refl _))).lt; omega)
 have HR1 := Lib.hid (HQ.out.alloc (.cells #[.int .u32 (u1 : Int), .int .u64 0, .int .u64 0, .bool false] 62))
 clear hr hf HQ HD0
 go_wp2_with fail
 with_reducible refine (H2.out _ HR1.out.rd).mono ?_
 rintro e w2 ⟨rfl, hr, hf⟩
 have hb := HB1.out.keep hf (HR1.out.not HG.out)
 have yc := hb.cell 1
 have yf := hb.frozen 1
 simp only [List.getElem?_toArray, List.getElem?_cons_zero, List.getElem?_cons_succ] at yc
 have HB2 : Hid (Blk (w2.setCell ⟨w1.heap.size, 1, none⟩ (.int .u64 (x2 : Int))) w1.heap.size 62 #[.int .u32 (u1 : Int), .int .u64 (x2 : Int), .int .u64 0, .bool false]) := Lib.hid (hb.set_ 1 (.int .u64 (x2 : Int)))
 have HD2 := Lib.hid ((HD1.out.keep hf (HR1.out.not (Nat.le_refl _))).far (p := ⟨w1.heap.size, 1, none⟩) HN.out (.int .u64 (x2 : Int)))
 have HR2 := Lib.hid ((HR1.out.call hr hf).set HG.out 1 (.int .u64 (x2 : Int)))
 clear hr hf hb
 go_wp2_with fail
 with_reducible refine (H3.out _ HR2.out.rd).mono ?_
 rintro e w3 ⟨rfl, hr, hf⟩
 have hb := HB2.out.keep hf (HR2.out.not HG.out)
 have yc := hb.cell 2
 have yf := hb.frozen 2
 simp only [List.getElem?_toArray, List.getElem?_cons_zero, List.getElem?_cons_succ] at yc
 have HB3 : Hid (Blk (w3.setCell ⟨w1.heap.size, 2, none⟩ (.int .u64 (x3 : Int))) w1.heap.size 62 #[.int .u32 (u1 : Int), .int .u64 (x2 : Int), .int .u64 (x3 : Int), .bool false]) := Lib.hid (hb.set_ 2 (.int .u64 (x3 : Int)))
 have HD3 := Lib.hid ((HD2.out.keep hf (HR2.out.not (Nat.le_refl _))).far (p := ⟨w1.heap.size, 2, none⟩) HN.out (.int .u64 (x3 : Int)))
 have HR3 := Lib.hid ((HR2.out.call hr hf).set HG.out 2 (.int .u64 (x3 : Int)))
 clear hr hf hb
 go_wp2_with fail
 with_reducible refine (H4.out _ HR3.out.rd).mono ?_
 rintro e w4 ⟨rfl, hr, hf⟩
 have hb := HB3.out.keep hf (HR3.out.not HG.out)
 have yc := hb.cell 3
 have yf := hb.frozen 3
 simp only [List.getElem?_toArray, List.getElem?_cons_zero, List.getElem?_cons_succ] at yc
 have HB4 : Hid (Blk (w4.setCell ⟨w1.heap.size, 3, none⟩ (.bool z)) w1.heap.size 62 #[.int .u32 (u1 : Int), .int .u64 (x2 : Int), .int .u64 (x3 : Int), .bool z]) := Lib.hid (hb.set_ 3 (.bool z))
 have HD4 := Lib.hid ((HD3.out.keep hf (HR3.out.not (Nat.le_refl _))).far (p := ⟨w1.heap.size, 3, none⟩) HN.out (.bool z))
 have HR4 := Lib.hid ((HR3.out.call hr hf).set HG.out 3 (.bool z))
 clear hr hf hb
 have E0 : Hid (Blk _ w.heap.size 62 #[.int .u32 0, .int .u64 0, .int .u64 0, .bool false]) := HD4
 have a0 := E0.out.cell 0
 have f0 := E0.out.frozen 0
 have E1 : Hid (Blk _ w.heap.size 62 #[.int .u32 (u1 : Int), .int .u64 0, .int .u64 0, .bool false]) := Lib.hid (E0.out.set_ 0 (.int .u32 (u1 : Int)))
 have a1 := E1.out.cell 1
 have f1 := E1.out.frozen 1
 have E2 : Hid (Blk _ w.heap.size 62 #[.int .u32 (u1 : Int), .int .u64 (x2 : Int), .int .u64 0, .bool false]) := Lib.hid (E1.out.set_ 1 (.int .u64 (x2 : Int)))
 have a2 := E2.out.cell 2
 have f2 := E2.out.frozen 2
 have E3 : Hid (Blk _ w.heap.size 62 #[.int .u32 (u1 : Int), .int .u64 (x2 : Int), .int .u64 (x3 : Int), .bool false]) := Lib.hid (E2.out.set_ 2 (.int .u64 (x3 : Int)))
 have a3 := E3.out.cell 3
 have f3 := E3.out.frozen 3
 have E4 : Hid (Blk _ w.heap.size 62 #[.int .u32 (u1 : Int), .int .u64 (x2 : Int), .int .u64 (x3 : Int), .bool z]) := Lib.hid (E3.out.set_ 3 (.bool z))
 have b0 := E1.out.cell 0
 have b1 := E2.out.cell 1
 have b2 := E3.out.cell 2
 have b3 := E4.out.cell 3
 have c0 := HB4.out.cell 0
 have c1 := HB4.out.cell 1
 have c2 := HB4.out.cell 2
 have c3 := HB4.out.cell 3
 simp only [List.getElem?_toArray, List.getElem?_cons_zero, List.getElem?_cons_succ] at a0 b0 c0 a1 b1 c1 a2 b2 c2 a3 b3 c3
 have HZ := Lib.hid ((((HR4.out.set (Nat.le_refl _) 0 (.int .u32 (u1 : Int))).set (Nat.le_refl _) 1 (.int .u64 (x2 : Int))).set (Nat.le_refl _) 2 (.int .u64 (x3 : Int))).set (Nat.le_refl _) 3 (.bool z))
 go_wp2_with fail
 refine bodyPost_ret (by simp [results, Tryz.results87, go_sem, b0, b1, b2, b3]; try rfl) rfl ?_
 exact ⟨rfl, HZ.out.rd, HZ.out.2.2⟩
end Go.Proofs.YtdhgbkibbileiaaGreat
namespace Go.Proofs.YtdhgbkibbileiaaGreat
open Go.RowKit
def Zf (w : World) (b : Nat) : Prop := b < w.heap.size ∧ ∀ (a : Addr) (u : Value), a.block = b → w.cell? a = some u → w.frozen? a = false
section
variable {w w' : World} {S T P U : Nat → Prop} {b B : Nat} {A : Option Addr} {n : Nat} {v : Value}
theorem Zf.keep (h : Zf w b) (hf : Fr w w' U) (hS : ¬ U b) : Zf w' b :=
 ⟨Nat.lt_of_lt_of_le h.1 hf.size, fun a u ha hc => by
  have hb : w'.heap[a.block]? = w.heap[a.block]? := by rw [ha]; exact hf.block b h.1 hS
  rw [World.cell?_of_block hb] at hc
  rw [World.frozen?_of_block hb]
  exact h.2 a u ha hc⟩
theorem Zf.grown {row : Option Nat} (h : Zf w b) (hg : w.grownBy w' row) (hr : row ≠ some b) : Zf w' b :=
 h.keep (U := fun k => row = some k) ((Fr.refl w _).grown hg fun _ hk => Or.inl hk) hr
theorem zf_of_row {base : Nat} {e : TypeId} {size : Nat} {xs : List Value} (h : w.ownsRow base e size v n xs) {k : Nat} (hk : v.ownBlock = some k) : Zf w k := by
 refine ⟨(h.lt k hk).2, fun a u ha _ => ?_⟩
 rcases h.2 with ⟨rfl, _⟩ | ⟨g, cap, cur, rfl, _, hg, _⟩
 ·simp [Value.ownBlock] at hk
 ·simp only [Value.ownBlock, Option.some.injEq] at hk
  have hg' : w.heap[a.block]? = some (.cells cur e (0, 0)) := by rw [ha, ← hk]; exact hg
  simp [World.frozen?, hg']
theorem Ow.z {l : List Nat} (h : Ow w S v n l) : Ow w (fun b => S b ∧ Zf w b) v n l := ⟨h.1, h.2.1, fun k hk => ⟨h.2.2 k hk, zf_of_row h.1 hk⟩⟩
theorem OwC.z {l : List CV} (h : OwC w S T v n l) : OwC w (fun b => S b ∧ Zf w b) T v n l := ⟨h.1, h.2.1, fun k hk => ⟨h.2.2.1 k hk, zf_of_row h.1 hk⟩, h.2.2.2⟩
theorem OwIV.z {l : List IV} (h : OwIV w S T v n l) : OwIV w (fun b => S b ∧ Zf w b) T v n l := ⟨h.1, h.2.1, fun k hk => ⟨h.2.2.1 k hk, zf_of_row h.1 hk⟩, h.2.2.2⟩
theorem OwLV.z {l : List LV} (h : OwLV w S T v n l) : OwLV w (fun b => S b ∧ Zf w b) T v n l := ⟨h.1, h.2.1, fun k hk => ⟨h.2.2.1 k hk, zf_of_row h.1 hk⟩, h.2.2.2⟩
theorem OwDV.z {l : List DV} (h : OwDV w S T v n l) : OwDV w (fun b => S b ∧ Zf w b) T v n l := ⟨h.1, h.2.1, fun k hk => ⟨h.2.2.1 k hk, zf_of_row h.1 hk⟩, h.2.2.2⟩
theorem RB.up {l : List Nat} (h : RB w (fun b => P b ∧ Zf w b) A n l) (hf : Fr w w' U) (hd : ∀ b, P b → ¬ U b) : RB w' (fun b => P b ∧ Zf w' b) A n l :=
 (h.mono (T := fun b => P b ∧ Zf w b ∧ Zf w' b) fun b _ hb => ⟨hb.1, hb.2, hb.2.keep hf (hd b hb.1)⟩).keep hf (fun b hb => hd b hb.1) |>.mono fun _ _ hb => ⟨hb.1, hb.2.2⟩
theorem RB.farz {l : List Nat} (h : RB w (fun b => P b ∧ Zf w b) A n l) {p : Addr} (hp : ¬ P p.block) (u : Value) : RB (w.setCell p u) (fun b => P b ∧ Zf (w.setCell p u) b) A n l :=
 h.up (U := fun b => b = p.block) ((Fr.refl w (fun b => b = p.block)).setCell (p := p) (Or.inl rfl) u) fun _ hb he => hp (he ▸ hb)
theorem CV.In.up {x : CV} (h : x.In w (fun b => P b ∧ Zf w b)) (hf : Fr w w' U) (hd : ∀ b, P b → ¬ U b) : x.In w' (fun b => P b ∧ Zf w' b) :=
 (h.mono (T' := fun b => P b ∧ Zf w b ∧ Zf w' b) fun b _ hb => ⟨hb.1, hb.2, hb.2.keep hf (hd b hb.1)⟩).keep hf (fun b hb => hd b hb.1) |>.mono fun _ _ hb => ⟨hb.1, hb.2.2⟩
theorem IV.In.up {x : IV} (h : x.In w (fun b => P b ∧ Zf w b)) (hf : Fr w w' U) (hd : ∀ b, P b → ¬ U b) : x.In w' (fun b => P b ∧ Zf w' b) :=
 (h.mono (S' := fun b => P b ∧ Zf w b ∧ Zf w' b) fun b _ hb => ⟨hb.1, hb.2, hb.2.keep hf (hd b hb.1)⟩).keep hf (fun b hb => hd b hb.1) |>.mono fun _ _ hb => ⟨hb.1, hb.2.2⟩
theorem RV.In.up {x : RV} (h : x.In w (fun b => P b ∧ Zf w b)) (hf : Fr w w' U) (hd : ∀ b, P b → ¬ U b) : x.In w' (fun b => P b ∧ Zf w' b) :=
 (h.mono (T' := fun b => P b ∧ Zf w b ∧ Zf w' b) fun b _ hb => ⟨hb.1, hb.2, hb.2.keep hf (hd b hb.1)⟩).keep hf (fun b hb => hd b hb.1) |>.mono fun _ _ hb => ⟨hb.1, hb.2.2⟩
theorem CR.up {l : List CV} (h : CR w (fun b => P b ∧ Zf w b) (fun b => P b ∧ Zf w b) A n l) (hf : Fr w w' U) (hd : ∀ b, P b → ¬ U b) : CR w' (fun b => P b ∧ Zf w' b) (fun b => P b ∧ Zf w' b) A n l :=
 ((h.mono (S' := fun b => P b ∧ Zf w b ∧ Zf w' b) (T' := fun b => P b ∧ Zf w b ∧ Zf w' b) (fun b _ hb => ⟨hb.1, hb.2, hb.2.keep hf (hd b hb.1)⟩) (fun b _ hb => ⟨hb.1, hb.2, hb.2.keep hf (hd b hb.1)⟩)).keep hf (fun b hb => hd b hb.1) (fun b hb => hd b hb.1)).mono (fun _ _ hb => ⟨hb.1, hb.2.2⟩) (fun _ _ hb => ⟨hb.1, hb.2.2⟩)
theorem OwC.up {l : List CV} (h : OwC w S (fun b => P b ∧ Zf w b) v n l) (hf : Fr w w' U) (hS : ∀ b, S b → ¬ U b) (hd : ∀ b, P b → ¬ U b) (hn : ∀ k, v.ownBlock = some k → ¬ P k) : OwC w' S (fun b => P b ∧ Zf w' b) v n l :=
 ⟨(h.keep hf hS (fun b hb => hd b hb.1)).1, fun x hx => (h.2.1 x hx).up hf hd, h.2.2.1, fun k hk hb => hn k hk hb.1⟩
theorem OwIV.up {l : List IV} (h : OwIV w S (fun b => P b ∧ Zf w b) v n l) (hf : Fr w w' U) (hS : ∀ b, S b → ¬ U b) (hd : ∀ b, P b → ¬ U b) (hn : ∀ k, v.ownBlock = some k → ¬ P k) : OwIV w' S (fun b => P b ∧ Zf w' b) v n l :=
 ⟨(h.keep hf hS (fun b hb => hd b hb.1)).1, fun x hx => (h.2.1 x hx).up hf hd, h.2.2.1, fun k hk hb => hn k hk hb.1⟩
end
end Go.Proofs.YtdhgbkibbileiaaGreat
set_option maxRecDepth 100000
namespace Go.Proofs.YtdhgbkibbileiaaGreat
open Go.RowKit
def i64n (n : Nat) : Int := IntKind.i64.wrap (n : Int)
theorem i64n_in (n : Nat) : -9223372036854775808 ≤ i64n n ∧ i64n n ≤ 9223372036854775807 := by unfold i64n; rw [IntKind.wrap_i64]; omega
def rR (ok : Bool) (l : List Nat) (n : Int) : List Nat × Bool × List Nat := (valO ok (takeO l n) [], okO ok (takeO l n), leftO ok l (takeO l n))
def rC (ok : Bool) (l : List Nat) : CE × Bool × List Nat :=
 let a := rI ok l
 if a.1 = 0 then (cz, a.2) else
 let b := rI a.2.1 a.2.2
 let c := rR b.2.1 b.2.2 (i64n a.1)
 (⟨true, n32 b.1, c.1⟩, c.2)
theorem rR_len (ok : Bool) (l : List Nat) (n : Int) : (rR ok l n).1.length ≤ l.length := by
 unfold rR valO takeO
 cases ok
 ·simp
 ·by_cases h : 0 ≤ n ∧ n ≤ l.length
  ·rw [if_pos h]; simp only [List.length_take]; omega
  ·rw [if_neg h]; simp
theorem Rd.le {w : World} {S : Nat → Prop} {p : Option Nat} {ok : Bool} {l : List Nat} (h : Rd w S p ok l) : l.length ≤ 140737488351232 := by
 cases p with
 | none => rw [h.2]; simp
 | some g => exact Rd.len h
theorem rR_any (w : World) (S : Nat → Prop) (p : Option Nat) (ok : Bool) (l : List Nat) (n : Int) (hn : -9223372036854775808 ≤ n ∧ n ≤ 9223372036854775807) (h : Rd w S p ok l) (x : List Nat) (ok' : Bool) (l' : List Nat) (hx : rR ok l n = (x, ok', l')) :
  Calls Tryz.prog 136 #[ptr p, .int .i64 n] w fun e w' => ∃ v k, e = .returned v ∧ k ≤ 140737488351232 ∧ Ow w' (fun b => w.heap.size ≤ b) v k x ∧ Rd w' S p ok' l' ∧ Fr w w' S := by
 have hl := rR_len ok l n
 rw [hx] at hl
 have hle := h.le
 unfold rR at hx
 injection hx with h1 h2
 injection h2 with h2 h3
 subst h1 h2 h3
 refine (rraw_any w S p ok l n hn.1 hn.2 h).mono ?_
 rintro e w' ⟨v, k, rfl, hk, ho, hg⟩
 exact ⟨v, k, rfl, by rw [hk]; exact Nat.le_trans hl hle, ho, hg⟩
def CellR (w : World) (S : Nat → Prop) (p : Option Nat) (s : CE × Bool × List Nat) (e : Ending) (w' : World) : Prop :=
 ∃ x : CV, e = .returned x.agg ∧ x.e = s.1 ∧ x.In w' (fun b => w.heap.size ≤ b ∧ Zf w' b) ∧ x.m ≤ 140737488351232 ∧ Rd w' S p s.2.1 s.2.2 ∧ Fr w w' S
set_option maxHeartbeats 1000000 in
theorem readCell_any (w : World) (S : Nat → Prop) (p : Option Nat) (ok : Bool) (l : List Nat) (h : Rd w S p ok l) (hS : ∀ b, S b → b < w.heap.size) :
  Calls Tryz.prog 118 #[ptr p] w (CellR w S p (rC ok l)) := by
 obtain ⟨x1, o1, l1, e1⟩ : ∃ x1 o1 l1, rI ok l = (x1, o1, l1) := ⟨_, _, _, rfl⟩
 obtain ⟨x2, o2, l2, e2⟩ : ∃ x2 o2 l2, rI o1 l1 = (x2, o2, l2) := ⟨_, _, _, rfl⟩
 obtain ⟨x3, o3, l3, e3⟩ : ∃ x3 o3 l3, rR o2 l2 (i64n x1) = (x3, o3, l3) := ⟨_, _, _, rfl⟩
 obtain ⟨s, hs⟩ : ∃ s, s = rC ok l := ⟨_, rfl⟩
 rw [← hs]
 simp only [rC, e1, e2, e3] at hs
 have hc := i64n_in x1
 obtain ⟨cn, hcn⟩ : ∃ cn, cn = i64n x1 := ⟨_, rfl⟩
 have g0 : IntKind.i64.wrap (x1 : Int) = cn := by rw [hcn]; rfl
 obtain ⟨u2, hu2⟩ : ∃ u2, u2 = n32 x2 := ⟨_, rfl⟩
 have g2 := wrap_n32 x2
 have hu : u2 < 4294967296 := by rw [hu2]; unfold n32; omega
 rw [← hcn] at e3 hc
 rw [← hu2] at g2 hs
 have HS := Lib.hid hs
 have H1 := Lib.hid (fun W (h : Rd W S p ok l) => rI_any W S p ok l h _ _ _ e1)
 have H2 := Lib.hid (fun W (h : Rd W S p o1 l1) => rI_any W S p o1 l1 h _ _ _ e2)
 have H3 := Lib.hid (fun W (h : Rd W S p o2 l2) => rR_any W S p o2 l2 cn hc h _ _ _ e3)
 have HU := Lib.hid hu
 have HR0 := Lib.hid ((RG.start h hS).alloc (.cells #[.bool false, .int .u32 0, .slice none 0 0] 55))
 have HD0 := Lib.hid (Blk.new w 55 #[.bool false, .int .u32 0, .slice none 0 0])
 clear e1 e2 e3 h hS hcn hu2 hu hc hs
 go_enter Tryz.func118, Tryz.ntmps118
 go_wp2_with fail
 with_reducible refine (H1.out _ HR0.out.rd).mono ?_
 rintro e w1 ⟨rfl, hr, hf⟩
 have HQ := Lib.hid (HR0.out.call hr hf)
 have HG : Hid (w.heap.size ≤ w1.heap.size) := Lib.hid HQ.out.size
 have HD1 := Lib.hid (HD0.out.keep hf (HR0.out.not (Nat.le_refl _)))
 clear hr hf HD0
 by_cases h0 : x1 = 0
 ·have d1 : ((x1 : Int) == 0) = true := by rw [beq_iff_eq]; omega
  have d2 : (x1 == 0) = true := by rw [beq_iff_eq]; exact h0
  have HSS : Hid (s = (cz, o1, l1)) := Lib.hid (by rw [HS.out, if_pos h0])
  clear h0
  have E0 : Hid (Blk _ w.heap.size 55 #[.bool false, .int .u32 0, .slice none 0 0]) := HD1
  have a0 := E0.out.cell 0
  have f0 := E0.out.frozen 0
  have E1 : Hid (Blk _ w.heap.size 55 #[.bool false, .int .u32 0, .slice none 0 0]) := Lib.hid (E0.out.set_ 0 (.bool false))
  have a1 := E1.out.cell 1
  have f1 := E1.out.frozen 1
  have E2 : Hid (Blk _ w.heap.size 55 #[.bool false, .int .u32 0, .slice none 0 0]) := Lib.hid (E1.out.set_ 1 (.int .u32 0))
  have a2 := E2.out.cell 2
  have f2 := E2.out.frozen 2
  have E3 : Hid (Blk _ w.heap.size 55 #[.bool false, .int .u32 0, .slice none 0 0]) := Lib.hid (E2.out.set_ 2 (.slice none 0 0))
  have b0 := E1.out.cell 0
  have b1 := E2.out.cell 1
  have b2 := E3.out.cell 2
  simp only [List.getElem?_toArray, List.getElem?_cons_zero, List.getElem?_cons_succ] at a0 b0 a1 b1 a2 b2
  have HZ := Lib.hid (((HQ.out.set (Nat.le_refl _) 0 (.bool false)).set (Nat.le_refl _) 1 (.int .u32 0)).set (Nat.le_refl _) 2 (.slice none 0 0))
  go_wp2_with fail
  refine bodyPost_ret (by simp [results, Tryz.results118, go_sem, b0, b1, b2]; try rfl) rfl ?_
  unfold CellR
  rw [HSS.out]
  exact ⟨⟨false, 0, none, 0, 0, []⟩, rfl, rfl, ⟨RB.nil_, by decide, Nat.le_refl _, by decide, fun _ => rfl⟩, by decide, HZ.out.rd, HZ.out.2.2⟩
 ·have d1 : ((x1 : Int) == 0) = false := beq_false_of_ne (by omega)
  have d2 : (x1 == 0) = false := beq_false_of_ne h0
  have HSS : Hid (s = ((⟨true, u2, x3⟩ : CE), o3, l3)) := Lib.hid (by rw [HS.out, if_neg h0])
  clear h0
  go_wp2_with fail
  with_reducible refine (H2.out _ HQ.out.rd).mono ?_
  rintro e w2 ⟨rfl, hr, hf⟩
  have HQ2 := Lib.hid (HQ.out.call hr hf)
  have HD2 := Lib.hid ((HD1.out.keep hf (HQ.out.not (Nat.le_refl _))).alloc (.cells #[.bool true, .int .u32 (u2 : Int), .slice none 0 0] 55))
  have HB2 := Lib.hid (Blk.new w2 55 #[.bool true, .int .u32 (u2 : Int), .slice none 0 0])
  have HN : Hid (w.heap.size ≠ w2.heap.size) := Lib.hid (by have := (HD1.out.keep hf (HQ.out.not (Nat.le_refl _))).lt; omega)
  have HG2 : Hid (w.heap.size ≤ w2.heap.size) := Lib.hid HQ2.out.size
  have HR2 := Lib.hid (HQ2.out.alloc (.cells #[.bool true, .int .u32 (u2 : Int), .slice none 0 0] 55))
  clear hr hf HQ HD1 HQ2
  go_wp2_with fail
  with_reducible refine (H3.out _ HR2.out.rd).mono ?_
  rintro e w3 ⟨v, m, rfl, hm, ho, hr, hf⟩
  obtain ⟨A, c, rfl, hmc, hA, _⟩ := ho.reads
  have hb := HB2.out.keep hf (HR2.out.not HG2.out)
  have yc := hb.cell 2
  have yf := hb.frozen 2
  simp only [List.getElem?_toArray, List.getElem?_cons_zero, List.getElem?_cons_succ] at yc
  have HB3 : Hid (Blk (w3.setCell ⟨w2.heap.size, 2, none⟩ (.slice A m c)) w2.heap.size 55 #[.bool true, .int .u32 (u2 : Int), .slice A m c]) := Lib.hid (hb.set_ 2 (.slice A m c))
  have hd := HD2.out.keep hf (HR2.out.not (Nat.le_refl _))
  have HD3 := Lib.hid (hd.far (p := ⟨w2.heap.size, 2, none⟩) HN.out (.slice A m c))
  have HR3 := Lib.hid ((HR2.out.call hr hf).set HG2.out 2 (.slice A m c))
  have HO3 := Lib.hid (ho.far hb (by decide) (i := 2) (.slice A m c))
  have HM := Lib.hid (And.intro hm (And.intro hmc hA))
  have c0 := HB3.out.cell 0
  have c1 := HB3.out.cell 1
  have c2 := HB3.out.cell 2
  simp only [List.getElem?_toArray, List.getElem?_cons_zero, List.getElem?_cons_succ] at c0 c1 c2
  clear hr hf hb ho hd hm hmc hA
  have E0 : Hid (Blk _ w.heap.size 55 #[.bool false, .int .u32 0, .slice none 0 0]) := HD3
  have a0 := E0.out.cell 0
  have f0 := E0.out.frozen 0
  have E1 : Hid (Blk _ w.heap.size 55 #[.bool true, .int .u32 0, .slice none 0 0]) := Lib.hid (E0.out.set_ 0 (.bool true))
  have a1 := E1.out.cell 1
  have f1 := E1.out.frozen 1
  have E2 : Hid (Blk _ w.heap.size 55 #[.bool true, .int .u32 (u2 : Int), .slice none 0 0]) := Lib.hid (E1.out.set_ 1 (.int .u32 (u2 : Int)))
  have a2 := E2.out.cell 2
  have f2 := E2.out.frozen 2
  have E3 : Hid (Blk _ w.heap.size 55 #[.bool true, .int .u32 (u2 : Int), .slice A m c]) := Lib.hid (E2.out.set_ 2 (.slice A m c))
  have b0 := E1.out.cell 0
  have b1 := E2.out.cell 1
  have b2 := E3.out.cell 2
  simp only [List.getElem?_toArray, List.getElem?_cons_zero, List.getElem?_cons_succ] at a0 b0 a1 b1 a2 b2
  have HZ := Lib.hid (((HR3.out.set (Nat.le_refl _) 0 (.bool true)).set (Nat.le_refl _) 1 (.int .u32 (u2 : Int))).set (Nat.le_refl _) 2 (.slice A m c))
  have HO4 := Lib.hid (((HO3.out.far E0.out (by decide) (i := 0) (.bool true)).far E1.out (by decide) (i := 1) (.int .u32 (u2 : Int))).far E2.out (by decide) (i := 2) (.slice A m c))
  go_wp2_with fail
  refine bodyPost_ret (by simp [results, Tryz.results118, go_sem, b0, b1, b2]; try rfl) rfl ?_
  unfold CellR
  rw [HSS.out]
  obtain ⟨A', c', he, _, _, hrb⟩ := HO4.out.z.reads
  injection he with hA1 _ hc1
  subst hA1 hc1
  exact ⟨⟨true, u2, A, m, c, x3⟩, rfl, rfl, ⟨hrb.mono fun b _ hb => ⟨Nat.le_trans HR2.out.size hb.1, hb.2⟩, HU.out, HM.out.2.1, Nat.le_trans HM.out.1 (by decide), HM.out.2.2⟩, HM.out.1, HZ.out.rd, HZ.out.2.2⟩
end Go.Proofs.YtdhgbkibbileiaaGreat
set_option maxRecDepth 100000
namespace Go.Proofs.YtdhgbkibbileiaaGreat
open Go.RowKit
theorem strOf_size (l : List Nat) : (strOf l).size = l.length := by simp [strOf, ByteArray.size]
theorem run_cvb (w : World) (l : List Nat) (hl : ∀ x ∈ l, x < 256) : ∃ (c : Nat) (o : Obj), l.length ≤ c ∧ (convert 9 24 (.string (strOf l))).run Tryz.prog w = .ok (.slice (some ⟨w.heap.size, 0, none⟩) l.length c) (w.drew.alloc o) ∧
  RB (w.drew.alloc o) (fun b => w.heap.size ≤ b) (some ⟨w.heap.size, 0, none⟩) l.length l := by
 refine ⟨_, _, ?_, by rw [run_bytes_of_string w 9 24 5 (strOf l) Tryz.underlying9 Tryz.underlying24 Tryz.underlying5, strOf_size], rfl, hl, fun _ => ⟨_, rfl, by simp, Nat.le_refl _, fun j hj => ?_⟩⟩
 ·exact grownCap_ge _ _ _ _
 ·have hb : l[j]? = some l[j] := List.getElem?_eq_getElem hj
  have hx := hl _ (List.getElem_mem hj)
  have hgd : l.getD j 0 = l[j] := by rw [List.getD_eq_getElem?_getD, hb]; rfl
  rw [hgd]
  have hc : w.drew.heap.size = w.heap.size := rfl
  rw [show ((⟨w.heap.size, 0, none⟩ : Addr).add j) = ⟨w.heap.size, j, none⟩ from add_head _ _]
  refine (cell_of_row _ _ _ _ _ _ (heap_alloc_new w.drew _)).trans ?_
  simp only [bytesRow, strOf, List.map_toArray, List.map_map]
  rw [Array.getElem?_append_left (by simpa using hj)]
  simp only [List.getElem?_toArray, List.getElem?_map, hb, Option.map_some, Function.comp_apply]
  congr 2
  have : (UInt8.ofNat l[j]).toNat = l[j] := by simp; omega
  rw [this]
theorem run_cvn (w : World) (l : List Nat) (hl : ∀ x ∈ l, x < 256) : ∃ (A : Option Addr) (c : Nat) (W : World), (convert 9 24 (.string (strOf l))).run Tryz.prog w = .ok (.slice A l.length c) W ∧ l.length ≤ c ∧ (A = none → c = 0) ∧
  RB W (fun b => w.heap.size ≤ b) A l.length l ∧ Below w.heap.size w W := by
 obtain ⟨c, o, h1, h2, h3⟩ := run_cvb w l hl
 exact ⟨_, c, _, h2, h1, (fun h => by cases h), h3, ((Below.refl _ _).drew).alloc (Nat.le_refl _) _⟩
theorem zf_alloc (w : World) (c : Array Value) (e : TypeId) (hi : Nat) : Zf (w.alloc (.cells c e (c.size, hi))) w.heap.size := by
 refine ⟨by simp, fun a u ha hc => ?_⟩
 have hb : (w.alloc (.cells c e (c.size, hi))).heap[a.block]? = some (.cells c e (c.size, hi)) := by rw [ha]; exact heap_alloc_new w _
 unfold World.cell? at hc
 rw [hb] at hc
 simp only at hc
 by_cases hs : a.spot.isSome = true
 ·rw [if_pos hs] at hc; cases hc
 ·rw [if_neg hs] at hc
  obtain ⟨hlt, _⟩ := Array.getElem?_eq_some_iff.1 hc
  unfold World.frozen?
  rw [hb]
  simp only [Bool.and_eq_false_iff, decide_eq_false_iff_not]
  exact Or.inl (by omega)
theorem run_cvz (w : World) (l : List Nat) (hl : ∀ x ∈ l, x < 256) : ∃ (A : Option Addr) (c : Nat) (W : World), (convert 9 24 (.string (strOf l))).run Tryz.prog w = .ok (.slice A l.length c) W ∧ l.length ≤ c ∧ (A = none → c = 0) ∧
  RB W (fun b => w.heap.size ≤ b ∧ Zf W b) A l.length l ∧ Below w.heap.size w W := by
 obtain ⟨c, o, h1, h2, h3⟩ := run_cvb w l hl
 have hz : Zf (w.drew.alloc o) w.heap.size := by
  rw [run_bytes_of_string w 9 24 5 (strOf l) Tryz.underlying9 Tryz.underlying24 Tryz.underlying5] at h2
  injection h2 with _ h2
  rw [← h2]
  exact zf_alloc w.drew _ 5 _
 refine ⟨_, c, _, h2, h1, (fun h => by cases h), ⟨h3.1, h3.2.1, fun hn => ?_⟩, ((Below.refl _ _).drew).alloc (Nat.le_refl _) _⟩
 obtain ⟨ad, e, hb, hs, hc⟩ := h3.2.2 hn
 refine ⟨ad, e, hb, ⟨hs, ?_⟩, hc⟩
 injection e with e
 rw [← e]
 exact hz
theorem RG.below {W wr w' : World} {S : Nat → Prop} {p : Option Nat} {ok : Bool} {l : List Nat} (h : RG W S p wr ok l) (hb : Below wr.heap.size wr w') : RG W S p w' ok l :=
 ⟨h.1.keep (Fr.of_below hb No) (fun _ _ hn => hn), h.2.1, h.2.2.same (Fr.of_below hb S)⟩
def rT (ok : Bool) (l : List Nat) : List Nat × Bool × List Nat := (valO ok (Cd.text l 180) [], okO ok (Cd.text l 180), leftO ok l (Cd.text l 180))
theorem rT_any (w : World) (S : Nat → Prop) (p : Option Nat) (ok : Bool) (l : List Nat) (h : Rd w S p ok l) (x : List Nat) (ok' : Bool) (l' : List Nat) (hx : rT ok l = (x, ok', l')) :
  Calls Tryz.prog 110 #[ptr p, .int .i64 180] w fun e w' => e = .returned (.string (strOf x)) ∧ Rd w' S p ok' l' ∧ Fr w w' S := by
 unfold rT at hx
 injection hx with h1 h2
 injection h2 with h2 h3
 subst h1 h2 h3
 exact text_any w S p ok l 180 (by decide) (by decide) h
theorem text_in {l : List Nat} {m : Int} {t : List Nat} {k : Nat} (h : Cd.text l m = some (t, k)) : (t.length : Int) ≤ m ∧ ∀ x ∈ t, x ∈ l := by
 unfold Cd.text at h
 cases hf : Cd.front l with
 | none => rw [hf] at h; simp at h
 | some q =>
   obtain ⟨c, n⟩ := q
   rw [hf] at h
   simp only at h
   split at h
   ·cases h
   ·rename_i hc
    injection h with h
    injection h with h1 h2
    subst h1
    refine ⟨?_, fun x hx => List.mem_of_mem_drop (List.mem_of_mem_take hx)⟩
    simp only [List.length_take]
    omega
theorem rT_in (ok : Bool) (l : List Nat) : (rT ok l).1.length ≤ 180 ∧ ∀ x ∈ (rT ok l).1, x ∈ l := by
 unfold rT
 cases ok with
 | false => simp [valO]
 | true =>
   cases hf : Cd.text l 180 with
   | none => simp [valO]
   | some q =>
     obtain ⟨t, k⟩ := q
     have := text_in hf
     simp only [valO]
     exact ⟨by omega, this.2⟩
structure ON where
 k : Int
 s : Int
 t : Nat
 d : List Nat
def OV.n (x : OV) : ON := ⟨x.k, x.s, x.t, x.d⟩
def rO (ok : Bool) (l : List Nat) : ON × Bool × List Nat :=
 let a := rB ok l
 let b := rI a.2.1 a.2.2
 let c := rI b.2.1 b.2.2
 let d := rT c.2.1 c.2.2
 (⟨a.1, i64n b.1, n32 c.1, d.1⟩, d.2)
theorem left_in {α : Type} (ok : Bool) (l : List Nat) (o : Option (α × Nat)) : ∀ x ∈ leftO ok l o, x ∈ l := by
 unfold leftO
 intro x hx
 split at hx
 ·exact List.mem_of_mem_drop hx
 ·exact hx
theorem rI_in (ok : Bool) (l : List Nat) : ∀ x ∈ (rI ok l).2.2, x ∈ l := left_in _ _ _
theorem rB_in (ok : Bool) (l : List Nat) : ∀ x ∈ (rB ok l).2.2, x ∈ l := left_in _ _ _
def OpR (w : World) (S : Nat → Prop) (p : Option Nat) (s : ON × Bool × List Nat) (e : Ending) (w' : World) : Prop :=
 ∃ x : OV, e = .returned x.agg ∧ x.n = s.1 ∧ x.In w' (fun b => w.heap.size ≤ b ∧ Zf w' b) ∧ Rd w' S p s.2.1 s.2.2 ∧ Fr w w' S
theorem rB_lt (ok : Bool) (l : List Nat) (h : ∀ x ∈ l, x < 256) : (rB ok l).1 < 256 := by
 unfold rB fixO takeO
 cases ok with
 | false => simp [valO]
 | true =>
   by_cases hc : (0 : Int) ≤ (1 : Nat) ∧ ((1 : Nat) : Int) ≤ l.length
   ·rw [if_pos hc]
    cases l with
    | nil => simp at hc
    | cons a r =>
      have := h a List.mem_cons_self
      simp [valO, Cd.unfix]
      omega
   ·rw [if_neg hc]; simp [valO]
set_option maxHeartbeats 1000000 in
theorem readOp_any (w : World) (S : Nat → Prop) (p : Option Nat) (ok : Bool) (l : List Nat) (h : Rd w S p ok l) (hS : ∀ b, S b → b < w.heap.size) :
  Calls Tryz.prog 80 #[ptr p] w (OpR w S p (rO ok l)) := by
 obtain ⟨x1, o1, l1, e1⟩ : ∃ x1 o1 l1, rB ok l = (x1, o1, l1) := ⟨_, _, _, rfl⟩
 obtain ⟨x2, o2, l2, e2⟩ : ∃ x2 o2 l2, rI o1 l1 = (x2, o2, l2) := ⟨_, _, _, rfl⟩
 obtain ⟨x3, o3, l3, e3⟩ : ∃ x3 o3 l3, rI o2 l2 = (x3, o3, l3) := ⟨_, _, _, rfl⟩
 obtain ⟨x4, o4, l4, e4⟩ : ∃ x4 o4 l4, rT o3 l3 = (x4, o4, l4) := ⟨_, _, _, rfl⟩
 have hx1 : x1 < 256 := by have := rB_lt ok l h.lt; rw [e1] at this; exact this
 have h4 := rT_in o3 l3
 rw [e4] at h4
 obtain ⟨s, hs⟩ : ∃ s, s = rO ok l := ⟨_, rfl⟩
 rw [← hs]
 simp only [rO, e1, e2, e3, e4] at hs
 have hc := i64n_in x2
 obtain ⟨cn, hcn⟩ : ∃ cn, cn = i64n x2 := ⟨_, rfl⟩
 have g1 : IntKind.i64.wrap (x1 : Int) = (x1 : Int) := IntWalk.i64_in _ (by omega)
 have g2 : IntKind.i64.wrap (x2 : Int) = cn := by rw [hcn]; rfl
 obtain ⟨u3, hu3⟩ : ∃ u3, u3 = n32 x3 := ⟨_, rfl⟩
 have g3 := wrap_n32 x3
 have hu : u3 < 4294967296 := by rw [hu3]; unfold n32; omega
 rw [← hcn] at hs hc
 rw [← hu3] at g3 hs
 have HS := Lib.hid hs
 have i1 := rB_in ok l
 have i2 := rI_in o1 l1
 have i3 := rI_in o2 l2
 rw [e1] at i1
 rw [e2] at i2
 rw [e3] at i3
 have hlt := h.lt
 have HL : Hid (∀ x ∈ l3, x < 256) := Lib.hid fun x hx => hlt x (i1 x (i2 x (i3 x hx)))
 clear i1 i2 i3 hlt
 have H1 := Lib.hid (fun W (h : Rd W S p ok l) => rB_any W S p ok l h _ _ _ e1)
 have H2 := Lib.hid (fun W (h : Rd W S p o1 l1) => rI_any W S p o1 l1 h _ _ _ e2)
 have H3 := Lib.hid (fun W (h : Rd W S p o2 l2) => rI_any W S p o2 l2 h _ _ _ e3)
 have H4 := Lib.hid (fun W (h : Rd W S p o3 l3) => rT_any W S p o3 l3 h _ _ _ e4)
 have HF := Lib.hid (And.intro hu (And.intro hc (And.intro hx1 h4)))
 have HR0 := Lib.hid ((RG.start h hS).alloc (.cells #[.int .i64 0, .int .i64 0, .int .u32 0, .slice none 0 0] 26))
 have HD0 := Lib.hid (Blk.new w 26 #[.int .i64 0, .int .i64 0, .int .u32 0, .slice none 0 0])
 clear e1 e2 e3 e4 h hS hcn hu3 hu hc hs h4 hx1
 go_enter Tryz.func80, Tryz.ntmps80
 go_wp2_with fail
 with_reducible refine (H1.out _ HR0.out.rd).mono ?_
 rintro e w1 ⟨rfl, hr, hf⟩
 have HQ := Lib.hid (HR0.out.call hr hf)
 have HG : Hid (w.heap.size ≤ w1.heap.size) := Lib.hid HQ.out.size
 have HD1 := Lib.hid ((HD0.out.keep hf (HR0.out.not (Nat.le_refl _))).alloc (.cells #[.int .i64 (x1 : Int), .int .i64 0, .int .u32 0, .slice none 0 0] 26))
 have HB1 := Lib.hid (Blk.new w1 26 #[.int .i64 (x1 : Int), .int .i64 0, .int .u32 0, .slice none 0 0])
 have HN : Hid (w.heap.size ≠ w1.heap.size) := Lib.hid (by have := (HD0.out.keep hf (HR0.out.not (Nat.le_refl _))).lt; omega)
 have HR1 := Lib.hid (HQ.out.alloc (.cells #[.int .i64 (x1 : Int), .int .i64 0, .int .u32 0, .slice none 0 0] 26))
 clear hr hf HQ HD0
 go_wp2_with fail
 with_reducible refine (H2.out _ HR1.out.rd).mono ?_
 rintro e w2 ⟨rfl, hr, hf⟩
 have hb := HB1.out.keep hf (HR1.out.not HG.out)
 have yc := hb.cell 1
 have yf := hb.frozen 1
 simp only [List.getElem?_toArray, List.getElem?_cons_zero, List.getElem?_cons_succ] at yc
 have HB2 : Hid (Blk (w2.setCell ⟨w1.heap.size, 1, none⟩ (.int .i64 cn)) w1.heap.size 26 #[.int .i64 (x1 : Int), .int .i64 cn, .int .u32 0, .slice none 0 0]) := Lib.hid (hb.set_ 1 (.int .i64 cn))
 have HD2 := Lib.hid ((HD1.out.keep hf (HR1.out.not (Nat.le_refl _))).far (p := ⟨w1.heap.size, 1, none⟩) HN.out (.int .i64 cn))
 have HR2 := Lib.hid ((HR1.out.call hr hf).set HG.out 1 (.int .i64 cn))
 clear hr hf hb
 go_wp2_with fail
 with_reducible refine (H3.out _ HR2.out.rd).mono ?_
 rintro e w3 ⟨rfl, hr, hf⟩
 have hb := HB2.out.keep hf (HR2.out.not HG.out)
 have yc := hb.cell 2
 have yf := hb.frozen 2
 simp only [List.getElem?_toArray, List.getElem?_cons_zero, List.getElem?_cons_succ] at yc
 have HB3 : Hid (Blk (w3.setCell ⟨w1.heap.size, 2, none⟩ (.int .u32 (u3 : Int))) w1.heap.size 26 #[.int .i64 (x1 : Int), .int .i64 cn, .int .u32 (u3 : Int), .slice none 0 0]) := Lib.hid (hb.set_ 2 (.int .u32 (u3 : Int)))
 have HD3 := Lib.hid ((HD2.out.keep hf (HR2.out.not (Nat.le_refl _))).far (p := ⟨w1.heap.size, 2, none⟩) HN.out (.int .u32 (u3 : Int)))
 have HR3 := Lib.hid ((HR2.out.call hr hf).set HG.out 2 (.int .u32 (u3 : Int)))
 clear hr hf hb
 go_wp2_with fail
 with_reducible refine (H4.out _ HR3.out.rd).mono ?_
 rintro e w4 ⟨rfl, hr, hf⟩
 have h4 := Lib.hid HF.out.2.2.2
 obtain ⟨A, c, w5, hcv, hmc, hA, hrb, hbl⟩ := run_cvz w4 x4 (fun x hx => HL.out x (h4.out.2 x hx))
 obtain ⟨m, hm⟩ : ∃ m, m = x4.length := ⟨_, rfl⟩
 rw [← hm] at hcv hmc hrb
 have hfb := Fr.of_below hbl No
 have hb := (HB3.out.keep hf (HR3.out.not HG.out)).keep hfb (fun hn => hn)
 have yc := hb.cell 3
 have yf := hb.frozen 3
 simp only [List.getElem?_toArray, List.getElem?_cons_zero, List.getElem?_cons_succ] at yc
 have HB4 : Hid (Blk (w5.setCell ⟨w1.heap.size, 3, none⟩ (.slice A m c)) w1.heap.size 26 #[.int .i64 (x1 : Int), .int .i64 cn, .int .u32 (u3 : Int), .slice A m c]) := Lib.hid (hb.set_ 3 (.slice A m c))
 have HD4 := Lib.hid (((HD3.out.keep hf (HR3.out.not (Nat.le_refl _))).keep hfb (fun hn => hn)).far (p := ⟨w1.heap.size, 3, none⟩) HN.out (.slice A m c))
 have HRB := Lib.hid (hrb.farz (p := ⟨w1.heap.size, 3, none⟩) (by have := (HB3.out.keep hf (HR3.out.not HG.out)).lt; show ¬ w4.heap.size ≤ w1.heap.size; omega) (.slice A m c))
 have HR4 := Lib.hid (((HR3.out.call hr hf).below hbl).set HG.out 3 (.slice A m c))
 have HC := Lib.hid (And.intro hmc (And.intro hA hm))
 have HNE : Hid (w.heap.size < w4.heap.size) := Lib.hid (HD3.out.keep hf (HR3.out.not (Nat.le_refl _))).lt
 clear hfb hbl hmc hA hm
 have c0 := HB4.out.cell 0
 have c1 := HB4.out.cell 1
 have c2 := HB4.out.cell 2
 have c3 := HB4.out.cell 3
 simp only [List.getElem?_toArray, List.getElem?_cons_zero, List.getElem?_cons_succ] at c0 c1 c2 c3
 clear hr hf hb hrb h4
 have E0 : Hid (Blk _ w.heap.size 26 #[.int .i64 0, .int .i64 0, .int .u32 0, .slice none 0 0]) := HD4
 have a0 := E0.out.cell 0
 have f0 := E0.out.frozen 0
 have E1 : Hid (Blk _ w.heap.size 26 #[.int .i64 (x1 : Int), .int .i64 0, .int .u32 0, .slice none 0 0]) := Lib.hid (E0.out.set_ 0 (.int .i64 (x1 : Int)))
 have a1 := E1.out.cell 1
 have f1 := E1.out.frozen 1
 have E2 : Hid (Blk _ w.heap.size 26 #[.int .i64 (x1 : Int), .int .i64 cn, .int .u32 0, .slice none 0 0]) := Lib.hid (E1.out.set_ 1 (.int .i64 cn))
 have a2 := E2.out.cell 2
 have f2 := E2.out.frozen 2
 have E3 : Hid (Blk _ w.heap.size 26 #[.int .i64 (x1 : Int), .int .i64 cn, .int .u32 (u3 : Int), .slice none 0 0]) := Lib.hid (E2.out.set_ 2 (.int .u32 (u3 : Int)))
 have a3 := E3.out.cell 3
 have f3 := E3.out.frozen 3
 have E4 : Hid (Blk _ w.heap.size 26 #[.int .i64 (x1 : Int), .int .i64 cn, .int .u32 (u3 : Int), .slice A m c]) := Lib.hid (E3.out.set_ 3 (.slice A m c))
 have b0 := E1.out.cell 0
 have b1 := E2.out.cell 1
 have b2 := E3.out.cell 2
 have b3 := E4.out.cell 3
 simp only [List.getElem?_toArray, List.getElem?_cons_zero, List.getElem?_cons_succ] at a0 b0 a1 b1 a2 b2 a3 b3
 have HZ := Lib.hid ((((HR4.out.set (Nat.le_refl _) 0 (.int .i64 (x1 : Int))).set (Nat.le_refl _) 1 (.int .i64 cn)).set (Nat.le_refl _) 2 (.int .u32 (u3 : Int))).set (Nat.le_refl _) 3 (.slice A m c))
 have HRZ := Lib.hid ((((HRB.out.farz (p := ⟨w.heap.size, 0, none⟩) (Nat.not_le_of_lt HNE.out) (.int .i64 (x1 : Int))).farz (p := ⟨w.heap.size, 1, none⟩) (Nat.not_le_of_lt HNE.out) (.int .i64 cn)).farz (p := ⟨w.heap.size, 2, none⟩) (Nat.not_le_of_lt HNE.out) (.int .u32 (u3 : Int))).farz (p := ⟨w.heap.size, 3, none⟩) (Nat.not_le_of_lt HNE.out) (.slice A m c))
 go_wp2_with fail
 refine bodyPost_ret (by simp [results, Tryz.results80, go_sem, b0, b1, b2, b3]; try rfl) rfl ?_
 unfold OpR
 rw [HS.out]
 exact ⟨⟨(x1 : Int), cn, u3, A, m, c, x4⟩, rfl, rfl, ⟨HRZ.out.mono fun b _ hb => ⟨Nat.le_trans (Nat.le_of_lt HNE.out) hb.1, hb.2⟩, by have := HF.out.2.2.1; show _ ≤ (x1 : Int); omega, by have := HF.out.2.2.1; show (x1 : Int) ≤ _; omega, HF.out.2.1.1, HF.out.2.1.2, HF.out.1, HC.out.1, by have := HF.out.2.2.2.1; have := HC.out.2.2; show m ≤ _; omega, HC.out.2.1⟩, HZ.out.rd, HZ.out.2.2⟩
end Go.Proofs.YtdhgbkibbileiaaGreat
