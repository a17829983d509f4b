/-
RE
-/
import Derived.Test.YtdhgbkibbileiaaGreatRC
import Derived.OrdersHeld
import Derived.Deep.Cut
import Derived.Deep.RegionHeld
set_option maxRecDepth 100000
namespace Go.Proofs.YtdhgbkibbileiaaGreat
open Go.RowKit
structure NB (w w' : World) (br n x f : Nat) : Prop where
 lo : w.heap.size ≤ n
 bx : Blk w' n 22 #[.int .u64 (x : Int)]
 bs : Blk w' (n + 1) 123 #[.func (.func f) #[] #[.pointer (some ⟨br, 0, none⟩)]]
theorem NB.below {w w1 w2 : World} {br n x f : Nat} (h : NB w w1 br n x f) (hb : Below w1.heap.size w1 w2) : NB w w2 br n x f := ⟨h.lo, h.bx.below hb h.bx.lt, h.bs.below hb h.bs.lt⟩
structure LB (w w' : World) (br m : Nat) (ty : TypeId) (v : Value) (tw : TypeId) (fw : Nat) (tr : TypeId) (fr : Nat) (ts : TypeId) (fs : Nat) : Prop where
 lo : w.heap.size ≤ m
 bi : Blk w' m ty #[v]
 bw : Blk w' (m + 1) tw #[.func (.func fw) #[] #[]]
 bq : Blk w' (m + 2) tr #[.func (.func fr) #[] #[]]
 bs : Blk w' (m + 3) ts #[.func (.func fs) #[] #[.pointer (some ⟨br, 0, none⟩)]]
theorem LB.below {w w1 w2 : World} {br m : Nat} {ty : TypeId} {v : Value} {tw : TypeId} {fw : Nat} {tr : TypeId} {fr : Nat} {ts : TypeId} {fs : Nat} (h : LB w w1 br m ty v tw fw tr fr ts fs) (hb : Below w1.heap.size w1 w2) : LB w w2 br m ty v tw fw tr fr ts fs :=
 ⟨h.lo, h.bi.below hb h.bi.lt, h.bw.below hb h.bw.lt, h.bq.below hb h.bq.lt, h.bs.below hb h.bs.lt⟩
def FO (w : World) (g : Nat) (r : RV) (e : Ending) (w' : World) : Prop := ∃ gf br n0 n1 n2 n3 n4 m6 m7 m8 n9 : Nat,
 e = .returned (.slice (some ⟨gf, 0, none⟩) 10 10) ∧ Below w.heap.size w w' ∧ (w.heap.size ≤ gf ∧ w.heap.size ≤ br) ∧ Blk w' gf 87 #[.bool (uT r.k), .bool (decide (r.t = 0)), .func (.func 105) #[] #[.pointer (some ⟨n0, 0, none⟩)], .func (.func 107) #[] #[.pointer (some ⟨(n0 + 1), 0, none⟩)], .bool (uP r.k), .bool (decide (r.a = 0)), .func (.func 105) #[] #[.pointer (some ⟨n1, 0, none⟩)], .func (.func 107) #[] #[.pointer (some ⟨(n1 + 1), 0, none⟩)], .bool (uU r.k), .bool (decide (r.b = 0)), .func (.func 105) #[] #[.pointer (some ⟨n2, 0, none⟩)], .func (.func 107) #[] #[.pointer (some ⟨(n2 + 1), 0, none⟩)], .bool (uO r.k), .bool (decide (r.pg = 0)), .func (.func 105) #[] #[.pointer (some ⟨n3, 0, none⟩)], .func (.func 107) #[] #[.pointer (some ⟨(n3 + 1), 0, none⟩)], .bool (uO r.k), .bool (decide (r.rt = 0)), .func (.func 105) #[] #[.pointer (some ⟨n4, 0, none⟩)], .func (.func 107) #[] #[.pointer (some ⟨(n4 + 1), 0, none⟩)], .bool (uO r.k), .bool (noop r.o), .func (.func 77) #[] #[.pointer (some ⟨br, 0, none⟩)], .func (.func 79) #[] #[.pointer (some ⟨br, 0, none⟩)], .bool (uI r.k), .bool (decide (r.im = 0)), .func (.func 111) #[] #[.pointer (some ⟨m6, 0, none⟩), .pointer (some ⟨(m6 + 1), 0, none⟩)], .func (.func 113) #[] #[.pointer (some ⟨(m6 + 3), 0, none⟩), .pointer (some ⟨(m6 + 2), 0, none⟩)], .bool (uC r.k), .bool (decide (r.lm = 0)), .func (.func 119) #[] #[.pointer (some ⟨m7, 0, none⟩), .pointer (some ⟨(m7 + 1), 0, none⟩)], .func (.func 121) #[] #[.pointer (some ⟨(m7 + 3), 0, none⟩), .pointer (some ⟨(m7 + 2), 0, none⟩)], .bool (uC r.k), .bool (decide (r.dm = 0)), .func (.func 123) #[] #[.pointer (some ⟨m8, 0, none⟩), .pointer (some ⟨(m8 + 1), 0, none⟩)], .func (.func 125) #[] #[.pointer (some ⟨(m8 + 3), 0, none⟩), .pointer (some ⟨(m8 + 2), 0, none⟩)], .bool (uC r.k), .bool (decide (r.nx = 0)), .func (.func 105) #[] #[.pointer (some ⟨n9, 0, none⟩)], .func (.func 107) #[] #[.pointer (some ⟨(n9 + 1), 0, none⟩)]] ∧ Blk w' br 83 #[.pointer (some ⟨g, 0, none⟩)] ∧
   NB w w' br n0 r.t 71 ∧ NB w w' br n1 r.a 72 ∧ NB w w' br n2 r.b 73 ∧ NB w w' br n3 r.pg 74 ∧ NB w w' br n4 r.rt 75 ∧ LB w w' br m6 27 (.slice r.iA r.im r.ic) 128 82 129 83 130 84 ∧ LB w w' br m7 28 (.slice r.lA r.lm r.lc) 132 86 133 87 134 88 ∧ LB w w' br m8 29 (.slice r.dA r.dm r.dc) 136 90 137 91 138 92 ∧ NB w w' br n9 r.nx 93
set_option maxHeartbeats 8000000 in
theorem fieldsOf_any (w : World) (g : Nat) (r : RV) (T : Nat → Prop) (hr : r.In w T) (hb : Blk w g 31 (rcs r)) : Calls Tryz.prog 41 #[.pointer (some ⟨g, 0, none⟩)] w (FO w g r) := by
 have hmf : ∀ (fn : Fn) (first cap : Array Value) (w : World), (Instr.makeFunc fn first cap).run Tryz.prog w = .ok (.func fn first cap) w := fun _ _ _ _ => rfl
 have hwt : IntKind.u64.wrap (r.t : Int) = (r.t : Int) := wrap_n (by have := hr.t; omega)
 have hwp : IntKind.u64.wrap (r.pg : Int) = (r.pg : Int) := wrap_n (by have := hr.pg; omega)
 have hwr : IntKind.u64.wrap (r.rt : Int) = (r.rt : Int) := wrap_n (by have := hr.rt; omega)
 have hwx : IntKind.u64.wrap (r.nx : Int) = (r.nx : Int) := wrap_n (by have := hr.nx; omega)
 obtain ⟨W0, hW0⟩ : ∃ W0, w.alloc (.cells #[.pointer (some ⟨g, 0, none⟩)] 83) = W0 := ⟨_, rfl⟩
 have HB0 : Hid (Blk W0 w.heap.size 83 #[.pointer (some ⟨g, 0, none⟩)]) := Lib.hid (by rw [← hW0]; exact Blk.new w 83 _)
 have HG0 : Hid (Blk W0 g 31 (rcs r)) := Lib.hid (by rw [← hW0]; exact hb.alloc _)
 have HL0 : Hid (Below w.heap.size w W0) := Lib.hid (by rw [← hW0]; exact (Below.refl _ _).alloc (Nat.le_refl _) _)
 have HC := Lib.hid (usedBy_any W0 r.k)
 have hrg := HG0.out
 unfold rcs at hrg
 have y0 := hrg.cell 0
 have y1 := hrg.cell 1
 have y2 := hrg.cell 2
 have y3 := hrg.cell 3
 have y4 := hrg.cell 4
 have y5 := hrg.cell 5
 have y6 := hrg.cell 6
 have y7 := hrg.cell 7
 have y8 := hrg.cell 8
 have y9 := hrg.cell 9
 have y10 := hrg.cell 10
 have y11 := hrg.cell 11
 have y12 := hrg.cell 12
 have y13 := hrg.cell 13
 have y14 := hrg.cell 14
 simp only [List.getElem?_toArray, List.getElem?_cons_zero, List.getElem?_cons_succ] at y0 y1 y2 y3 y4 y5 y6 y7 y8 y9 y10 y11 y12 y13 y14
 clear hrg
 have b0 := HB0.out.cell 0
 simp only [List.getElem?_toArray, List.getElem?_cons_zero] at b0
 clear hr hb
 go_enter Tryz.func41, Tryz.ntmps41
 go_wp2_with fail
 with_reducible refine HC.out.mono ?_
 rintro e w1 ⟨rfl, hb1⟩
 unfold usesV
 obtain ⟨W1, hW1⟩ : ∃ W1, w1.alloc (.cells #[.bool (uT r.k), .bool (uP r.k), .bool (uU r.k), .bool (uO r.k), .bool (uO r.k), .bool (uO r.k), .bool (uI r.k), .bool (uC r.k), .bool (uC r.k), .bool (uC r.k)] 120) = W1 := ⟨_, rfl⟩
 have HU1 : Hid (Blk W1 w1.heap.size 120 #[.bool (uT r.k), .bool (uP r.k), .bool (uU r.k), .bool (uO r.k), .bool (uO r.k), .bool (uO r.k), .bool (uI r.k), .bool (uC r.k), .bool (uC r.k), .bool (uC r.k)]) := Lib.hid (by rw [← hW1]; exact Blk.new w1 120 _)
 have hb1' : Below W0.heap.size W0 W1 := by rw [← hW1]; exact hb1.alloc hb1.size _
 have HG1 := Lib.hid (HG0.out.below hb1' HG0.out.lt)
 have HB1 := Lib.hid (HB0.out.below hb1' HB0.out.lt)
 have HL1 := Lib.hid (HL0.out.trans (hb1'.mono HL0.out.size))
 clear hb1 hb1'
 go_upto_region 2 with fail
 refine wp_region_held_drew (S := fun wx => Fr W1 wx No) (by kernel_rfl) ((Fr.refl W1 No).drew) (fun hS => ?_)
 refine wpAnyH_take (i := 0) (v := ?_) rfl (by kernel_rfl) (by kernel_rfl) (by kernel_rfl) (fun _ _ _ h => h) (Or.inl ⟨by rfl, ?_⟩) hS ?_
 rotate_left
 ·(intro wq hSw; go_simp; try with_reducible rfl)
 refine wpAnyH_take (i := 1) (v := ?_) rfl (by kernel_rfl) (by kernel_rfl) (by kernel_rfl) (fun _ _ _ h => h) (Or.inl ⟨by rfl, ?_⟩) hS ?_
 rotate_left
 ·(intro wq hSw; have hq := (HU1.out.keep hSw fun h => h).cell 0; simp only [List.getElem?_toArray, List.getElem?_cons_zero] at hq; go_simp; try with_reducible rfl)
 simp only [List.getElem_toArray, Act.put]
 refine wpAnyH_take (i := 2) (v := ?_) rfl (by kernel_rfl) (by kernel_rfl) (by kernel_rfl) (fun _ _ _ h => h) (Or.inl ⟨by rfl, ?_⟩) hS ?_
 rotate_left
 ·(intro wq hSw; have hq := (HB1.out.keep hSw fun h => h).cell 0; simp only [List.getElem?_toArray, List.getElem?_cons_zero] at hq; go_simp; try with_reducible rfl)
 simp only [List.getElem_toArray, Act.put]
 refine wpAnyH_take (i := 3) (v := ?_) rfl (by kernel_rfl) (by kernel_rfl) (by kernel_rfl) (fun _ _ _ h => h) (Or.inl ⟨by rfl, ?_⟩) hS ?_
 rotate_left
 ·(intro wq hSw; go_simp; try with_reducible rfl)
 simp only [List.getElem_toArray, Act.put]
 refine wpAnyH_take (i := 4) (v := ?_) rfl (by kernel_rfl) (by kernel_rfl) (by kernel_rfl) (fun _ _ _ h => h) (Or.inl ⟨by rfl, ?_⟩) hS ?_
 rotate_left
 ·(intro wq hSw; go_simp; try with_reducible rfl)
 simp only [List.getElem_toArray, Act.put]
 refine wpAnyH_take (i := 5) (v := ?_) rfl (by kernel_rfl) (by kernel_rfl) (by kernel_rfl) (fun _ _ _ h => h) (Or.inl ⟨by rfl, ?_⟩) hS ?_
 rotate_left
 ·(intro wq hSw; have hq := (HG1.out.keep hSw fun h => h).cell 2; unfold rcs at hq; simp only [List.getElem?_toArray, List.getElem?_cons_zero, List.getElem?_cons_succ] at hq; go_simp; try with_reducible rfl)
 simp only [List.getElem_toArray, Act.put]
 refine wpAnyH_take (i := 6) (v := ?_) rfl (by kernel_rfl) (by kernel_rfl) (by kernel_rfl) (fun _ _ _ h => h) (Or.inl ⟨by rfl, ?_⟩) hS ?_
 rotate_left
 ·(intro wq hSw; go_simp; try with_reducible rfl)
 simp only [List.getElem_toArray, Act.put]
 refine wpAnyH_take (i := 7) (v := ?_) rfl (by kernel_rfl) (by kernel_rfl) (by kernel_rfl) (fun _ _ _ h => h) (Or.inl ⟨by rfl, ?_⟩) hS ?_
 rotate_left
 ·(intro wq hSw; go_simp; try with_reducible rfl)
 simp only [List.getElem_toArray, Act.put]
 refine wpAnyH_take (i := 9) (v := ?_) rfl (by kernel_rfl) (by kernel_rfl) (by kernel_rfl) (fun _ _ _ h => h) (Or.inl ⟨by rfl, ?_⟩) hS ?_
 rotate_left
 ·(intro wq hSw; go_simp; try with_reducible rfl)
 simp only [List.getElem_toArray, Act.put]
 refine wpAnyH_take (i := 10) (v := ?_) rfl (by kernel_rfl) (by kernel_rfl) (by kernel_rfl) (fun _ _ _ h => h) (Or.inl ⟨by rfl, ?_⟩) hS ?_
 rotate_left
 ·(intro wq hSw; have hq := (HU1.out.keep hSw fun h => h).cell 1; simp only [List.getElem?_toArray, List.getElem?_cons_zero, List.getElem?_cons_succ] at hq; go_simp; try with_reducible rfl)
 simp only [List.getElem_toArray, Act.put]
 refine wpAnyH_take (i := 11) (v := ?_) rfl (by kernel_rfl) (by kernel_rfl) (by kernel_rfl) (fun _ _ _ h => h) (Or.inl ⟨by rfl, ?_⟩) hS ?_
 rotate_left
 ·(intro wq hSw; have hq := (HB1.out.keep hSw fun h => h).cell 0; simp only [List.getElem?_toArray, List.getElem?_cons_zero] at hq; go_simp; try with_reducible rfl)
 simp only [List.getElem_toArray, Act.put]
 refine wpAnyH_take (i := 12) (v := ?_) rfl (by kernel_rfl) (by kernel_rfl) (by kernel_rfl) (fun _ _ _ h => h) (Or.inl ⟨by rfl, ?_⟩) hS ?_
 rotate_left
 ·(intro wq hSw; go_simp; try with_reducible rfl)
 simp only [List.getElem_toArray, Act.put]
 refine wpAnyH_take (i := 13) (v := ?_) rfl (by kernel_rfl) (by kernel_rfl) (by kernel_rfl) (fun _ _ _ h => h) (Or.inl ⟨by rfl, ?_⟩) hS ?_
 rotate_left
 ·(intro wq hSw; go_simp; try with_reducible rfl)
 simp only [List.getElem_toArray, Act.put]
 refine wpAnyH_take (i := 14) (v := ?_) rfl (by kernel_rfl) (by kernel_rfl) (by kernel_rfl) (fun _ _ _ h => h) (Or.inl ⟨by rfl, ?_⟩) hS ?_
 rotate_left
 ·(intro wq hSw; have hq := (HG1.out.keep hSw fun h => h).cell 3; unfold rcs at hq; simp only [List.getElem?_toArray, List.getElem?_cons_zero, List.getElem?_cons_succ] at hq; go_simp; try with_reducible rfl)
 simp only [List.getElem_toArray, Act.put]
 refine wpAnyH_take (i := 15) (v := ?_) rfl (by kernel_rfl) (by kernel_rfl) (by kernel_rfl) (fun _ _ _ h => h) (Or.inl ⟨by rfl, ?_⟩) hS ?_
 rotate_left
 ·(intro wq hSw; go_simp; try with_reducible rfl)
 simp only [List.getElem_toArray, Act.put]
 refine wpAnyH_take (i := 17) (v := ?_) rfl (by kernel_rfl) (by kernel_rfl) (by kernel_rfl) (fun _ _ _ h => h) (Or.inl ⟨by rfl, ?_⟩) hS ?_
 rotate_left
 ·(intro wq hSw; go_simp; try with_reducible rfl)
 simp only [List.getElem_toArray, Act.put]
 refine wpAnyH_take (i := 18) (v := ?_) rfl (by kernel_rfl) (by kernel_rfl) (by kernel_rfl) (fun _ _ _ h => h) (Or.inl ⟨by rfl, ?_⟩) hS ?_
 rotate_left
 ·(intro wq hSw; have hq := (HU1.out.keep hSw fun h => h).cell 2; simp only [List.getElem?_toArray, List.getElem?_cons_zero, List.getElem?_cons_succ] at hq; go_simp; try with_reducible rfl)
 simp only [List.getElem_toArray, Act.put]
 refine wpAnyH_take (i := 19) (v := ?_) rfl (by kernel_rfl) (by kernel_rfl) (by kernel_rfl) (fun _ _ _ h => h) (Or.inl ⟨by rfl, ?_⟩) hS ?_
 rotate_left
 ·(intro wq hSw; have hq := (HB1.out.keep hSw fun h => h).cell 0; simp only [List.getElem?_toArray, List.getElem?_cons_zero] at hq; go_simp; try with_reducible rfl)
 simp only [List.getElem_toArray, Act.put]
 refine wpAnyH_take (i := 20) (v := ?_) rfl (by kernel_rfl) (by kernel_rfl) (by kernel_rfl) (fun _ _ _ h => h) (Or.inl ⟨by rfl, ?_⟩) hS ?_
 rotate_left
 ·(intro wq hSw; go_simp; try with_reducible rfl)
 simp only [List.getElem_toArray, Act.put]
 refine wpAnyH_take (i := 21) (v := ?_) rfl (by kernel_rfl) (by kernel_rfl) (by kernel_rfl) (fun _ _ _ h => h) (Or.inl ⟨by rfl, ?_⟩) hS ?_
 rotate_left
 ·(intro wq hSw; go_simp; try with_reducible rfl)
 simp only [List.getElem_toArray, Act.put]
 refine wpAnyH_take (i := 22) (v := ?_) rfl (by kernel_rfl) (by kernel_rfl) (by kernel_rfl) (fun _ _ _ h => h) (Or.inl ⟨by rfl, ?_⟩) hS ?_
 rotate_left
 ·(intro wq hSw; have hq := (HG1.out.keep hSw fun h => h).cell 4; unfold rcs at hq; simp only [List.getElem?_toArray, List.getElem?_cons_zero, List.getElem?_cons_succ] at hq; go_simp; try with_reducible rfl)
 simp only [List.getElem_toArray, Act.put]
 refine wpAnyH_take (i := 23) (v := ?_) rfl (by kernel_rfl) (by kernel_rfl) (by kernel_rfl) (fun _ _ _ h => h) (Or.inl ⟨by rfl, ?_⟩) hS ?_
 rotate_left
 ·(intro wq hSw; go_simp; try with_reducible rfl)
 simp only [List.getElem_toArray, Act.put]
 refine wpAnyH_take (i := 25) (v := ?_) rfl (by kernel_rfl) (by kernel_rfl) (by kernel_rfl) (fun _ _ _ h => h) (Or.inl ⟨by rfl, ?_⟩) hS ?_
 rotate_left
 ·(intro wq hSw; go_simp; try with_reducible rfl)
 simp only [List.getElem_toArray, Act.put]
 refine wpAnyH_take (i := 26) (v := ?_) rfl (by kernel_rfl) (by kernel_rfl) (by kernel_rfl) (fun _ _ _ h => h) (Or.inl ⟨by rfl, ?_⟩) hS ?_
 rotate_left
 ·(intro wq hSw; have hq := (HU1.out.keep hSw fun h => h).cell 3; simp only [List.getElem?_toArray, List.getElem?_cons_zero, List.getElem?_cons_succ] at hq; go_simp; try with_reducible rfl)
 simp only [List.getElem_toArray, Act.put]
 refine wpAnyH_take (i := 27) (v := ?_) rfl (by kernel_rfl) (by kernel_rfl) (by kernel_rfl) (fun _ _ _ h => h) (Or.inl ⟨by rfl, ?_⟩) hS ?_
 rotate_left
 ·(intro wq hSw; have hq := (HB1.out.keep hSw fun h => h).cell 0; simp only [List.getElem?_toArray, List.getElem?_cons_zero] at hq; go_simp; try with_reducible rfl)
 simp only [List.getElem_toArray, Act.put]
 refine wpAnyH_take (i := 28) (v := ?_) rfl (by kernel_rfl) (by kernel_rfl) (by kernel_rfl) (fun _ _ _ h => h) (Or.inl ⟨by rfl, ?_⟩) hS ?_
 rotate_left
 ·(intro wq hSw; go_simp; try with_reducible rfl)
 simp only [List.getElem_toArray, Act.put]
 refine wpAnyH_take (i := 29) (v := ?_) rfl (by kernel_rfl) (by kernel_rfl) (by kernel_rfl) (fun _ _ _ h => h) (Or.inl ⟨by rfl, ?_⟩) hS ?_
 rotate_left
 ·(intro wq hSw; go_simp; try with_reducible rfl)
 simp only [List.getElem_toArray, Act.put]
 refine wpAnyH_take (i := 30) (v := ?_) rfl (by kernel_rfl) (by kernel_rfl) (by kernel_rfl) (fun _ _ _ h => h) (Or.inl ⟨by rfl, ?_⟩) hS ?_
 rotate_left
 ·(intro wq hSw; have hq := (HG1.out.keep hSw fun h => h).cell 5; unfold rcs at hq; simp only [List.getElem?_toArray, List.getElem?_cons_zero, List.getElem?_cons_succ] at hq; go_simp; try with_reducible rfl)
 simp only [List.getElem_toArray, Act.put]
 refine wpAnyH_take (i := 31) (v := ?_) rfl (by kernel_rfl) (by kernel_rfl) (by kernel_rfl) (fun _ _ _ h => h) (Or.inl ⟨by rfl, ?_⟩) hS ?_
 rotate_left
 ·(intro wq hSw; go_simp; try with_reducible rfl)
 simp only [List.getElem_toArray, Act.put]
 refine wpAnyH_take (i := 32) (v := ?_) rfl (by kernel_rfl) (by kernel_rfl) (by kernel_rfl) (fun _ _ _ h => h) (Or.inl ⟨by rfl, ?_⟩) hS ?_
 rotate_left
 ·(intro wq hSw; go_simp; try with_reducible rfl)
 simp only [List.getElem_toArray, Act.put]
 refine wpAnyH_take (i := 34) (v := ?_) rfl (by kernel_rfl) (by kernel_rfl) (by kernel_rfl) (fun _ _ _ h => h) (Or.inl ⟨by rfl, ?_⟩) hS ?_
 rotate_left
 ·(intro wq hSw; go_simp; try with_reducible rfl)
 simp only [List.getElem_toArray, Act.put]
 refine wpAnyH_take (i := 35) (v := ?_) rfl (by kernel_rfl) (by kernel_rfl) (by kernel_rfl) (fun _ _ _ h => h) (Or.inl ⟨by rfl, ?_⟩) hS ?_
 rotate_left
 ·(intro wq hSw; have hq := (HU1.out.keep hSw fun h => h).cell 4; simp only [List.getElem?_toArray, List.getElem?_cons_zero, List.getElem?_cons_succ] at hq; go_simp; try with_reducible rfl)
 simp only [List.getElem_toArray, Act.put]
 refine wpAnyH_take (i := 36) (v := ?_) rfl (by kernel_rfl) (by kernel_rfl) (by kernel_rfl) (fun _ _ _ h => h) (Or.inl ⟨by rfl, ?_⟩) hS ?_
 rotate_left
 ·(intro wq hSw; have hq := (HB1.out.keep hSw fun h => h).cell 0; simp only [List.getElem?_toArray, List.getElem?_cons_zero] at hq; go_simp; try with_reducible rfl)
 simp only [List.getElem_toArray, Act.put]
 refine wpAnyH_take (i := 37) (v := ?_) rfl (by kernel_rfl) (by kernel_rfl) (by kernel_rfl) (fun _ _ _ h => h) (Or.inl ⟨by rfl, ?_⟩) hS ?_
 rotate_left
 ·(intro wq hSw; go_simp; try with_reducible rfl)
 simp only [List.getElem_toArray, Act.put]
 refine wpAnyH_take (i := 38) (v := ?_) rfl (by kernel_rfl) (by kernel_rfl) (by kernel_rfl) (fun _ _ _ h => h) (Or.inl ⟨by rfl, ?_⟩) hS ?_
 rotate_left
 ·(intro wq hSw; go_simp; try with_reducible rfl)
 simp only [List.getElem_toArray, Act.put]
 refine wpAnyH_take (i := 39) (v := ?_) rfl (by kernel_rfl) (by kernel_rfl) (by kernel_rfl) (fun _ _ _ h => h) (Or.inl ⟨by rfl, ?_⟩) hS ?_
 rotate_left
 ·(intro wq hSw; have hq := (HG1.out.keep hSw fun h => h).cell 6; unfold rcs at hq; simp only [List.getElem?_toArray, List.getElem?_cons_zero, List.getElem?_cons_succ] at hq; go_simp; try with_reducible rfl)
 simp only [List.getElem_toArray, Act.put]
 refine wpAnyH_take (i := 40) (v := ?_) rfl (by kernel_rfl) (by kernel_rfl) (by kernel_rfl) (fun _ _ _ h => h) (Or.inl ⟨by rfl, ?_⟩) hS ?_
 rotate_left
 ·(intro wq hSw; go_simp; try with_reducible rfl)
 simp only [List.getElem_toArray, Act.put]
 refine wpAnyH_take (i := 41) (v := ?_) rfl (by kernel_rfl) (by kernel_rfl) (by kernel_rfl) (fun _ _ _ h => h) (Or.inl ⟨by rfl, ?_⟩) hS ?_
 rotate_left
 ·(intro wq hSw; go_simp; try with_reducible rfl)
 simp only [List.getElem_toArray, Act.put]
 refine wpAnyH_take (i := 43) (v := ?_) rfl (by kernel_rfl) (by kernel_rfl) (by kernel_rfl) (fun _ _ _ h => h) (Or.inl ⟨by rfl, ?_⟩) hS ?_
 rotate_left
 ·(intro wq hSw; go_simp; try with_reducible rfl)
 simp only [List.getElem_toArray, Act.put]
 refine wpAnyH_take (i := 44) (v := ?_) rfl (by kernel_rfl) (by kernel_rfl) (by kernel_rfl) (fun _ _ _ h => h) (Or.inl ⟨by rfl, ?_⟩) hS ?_
 rotate_left
 ·(intro wq hSw; have hq := (HU1.out.keep hSw fun h => h).cell 5; simp only [List.getElem?_toArray, List.getElem?_cons_zero, List.getElem?_cons_succ] at hq; go_simp; try with_reducible rfl)
 simp only [List.getElem_toArray, Act.put]
 refine wpAnyH_take (i := 45) (v := ?_) rfl (by kernel_rfl) (by kernel_rfl) (by kernel_rfl) (fun _ _ _ h => h) (Or.inl ⟨by rfl, ?_⟩) hS ?_
 rotate_left
 ·(intro wq hSw; have hq := (HB1.out.keep hSw fun h => h).cell 0; simp only [List.getElem?_toArray, List.getElem?_cons_zero] at hq; go_simp; try with_reducible rfl)
 simp only [List.getElem_toArray, Act.put]
 refine wpAnyH_take (i := 46) (v := ?_) rfl (by kernel_rfl) (by kernel_rfl) (by kernel_rfl) (fun _ _ _ h => h) (Or.inl ⟨by rfl, ?_⟩) hS ?_
 rotate_left
 ·(intro wq hSw; go_simp; try with_reducible rfl)
 simp only [List.getElem_toArray, Act.put]
 refine wpAnyH_take (i := 47) (v := ?_) rfl (by kernel_rfl) (by kernel_rfl) (by kernel_rfl) (fun _ _ _ h => h) (Or.inl ⟨by rfl, ?_⟩) hS ?_
 rotate_left
 ·(intro wq hSw; go_simp; try with_reducible rfl)
 simp only [List.getElem_toArray, Act.put]
 refine wpAnyH_take (i := 48) (v := ?_) rfl (by kernel_rfl) (by kernel_rfl) (by kernel_rfl) (fun _ _ _ h => h) (Or.inl ⟨by rfl, ?_⟩) hS ?_
 rotate_left
 ·(intro wq hSw; have hg := HG1.out.keep hSw fun h => h; unfold rcs at hg; have h7 := hg.cell 7; have h8 := hg.cell 8; have h9 := hg.cell 9; have h10 := hg.cell 10; simp only [List.getElem?_toArray, List.getElem?_cons_zero, List.getElem?_cons_succ] at h7 h8 h9 h10; go_simp; try with_reducible rfl)
 simp only [List.getElem_toArray, Act.put]
 refine wpAnyH_take (i := 50) (v := ?_) rfl (by kernel_rfl) (by kernel_rfl) (by kernel_rfl) (fun _ _ _ h => h) (Or.inl ⟨by rfl, ?_⟩) hS ?_
 rotate_left
 ·(intro wq hSw; go_simp; try with_reducible rfl)
 simp only [List.getElem_toArray, Act.put]
 refine wpAnyH_take (i := 51) (v := ?_) rfl (by kernel_rfl) (by kernel_rfl) (by kernel_rfl) (fun _ _ _ h => h) (Or.inl ⟨by rfl, ?_⟩) hS ?_
 rotate_left
 ·(intro wq hSw; go_simp; try with_reducible rfl)
 simp only [List.getElem_toArray, Act.put]
 refine wpAnyH_take (i := 53) (v := ?_) rfl (by kernel_rfl) (by kernel_rfl) (by kernel_rfl) (fun _ _ _ h => h) (Or.inl ⟨by rfl, ?_⟩) hS ?_
 rotate_left
 ·(intro wq hSw; go_simp; try with_reducible rfl)
 simp only [List.getElem_toArray, Act.put]
 refine wpAnyH_take (i := 54) (v := ?_) rfl (by kernel_rfl) (by kernel_rfl) (by kernel_rfl) (fun _ _ _ h => h) (Or.inl ⟨by rfl, ?_⟩) hS ?_
 rotate_left
 ·(intro wq hSw; have hq := (HU1.out.keep hSw fun h => h).cell 6; simp only [List.getElem?_toArray, List.getElem?_cons_zero, List.getElem?_cons_succ] at hq; go_simp; try with_reducible rfl)
 simp only [List.getElem_toArray, Act.put]
 refine wpAnyH_take (i := 55) (v := ?_) rfl (by kernel_rfl) (by kernel_rfl) (by kernel_rfl) (fun _ _ _ h => h) (Or.inl ⟨by rfl, ?_⟩) hS ?_
 rotate_left
 ·(intro wq hSw; have hq := (HB1.out.keep hSw fun h => h).cell 0; simp only [List.getElem?_toArray, List.getElem?_cons_zero] at hq; go_simp; try with_reducible rfl)
 simp only [List.getElem_toArray, Act.put]
 refine wpAnyH_take (i := 56) (v := ?_) rfl (by kernel_rfl) (by kernel_rfl) (by kernel_rfl) (fun _ _ _ h => h) (Or.inl ⟨by rfl, ?_⟩) hS ?_
 rotate_left
 ·(intro wq hSw; go_simp; try with_reducible rfl)
 simp only [List.getElem_toArray, Act.put]
 refine wpAnyH_take (i := 57) (v := ?_) rfl (by kernel_rfl) (by kernel_rfl) (by kernel_rfl) (fun _ _ _ h => h) (Or.inl ⟨by rfl, ?_⟩) hS ?_
 rotate_left
 ·(intro wq hSw; go_simp; try with_reducible rfl)
 simp only [List.getElem_toArray, Act.put]
 refine wpAnyH_take (i := 58) (v := ?_) rfl (by kernel_rfl) (by kernel_rfl) (by kernel_rfl) (fun _ _ _ h => h) (Or.inl ⟨by rfl, ?_⟩) hS ?_
 rotate_left
 ·(intro wq hSw; have hq := (HG1.out.keep hSw fun h => h).cell 11; unfold rcs at hq; simp only [List.getElem?_toArray, List.getElem?_cons_zero, List.getElem?_cons_succ] at hq; go_simp; try with_reducible rfl)
 simp only [List.getElem_toArray, Act.put]
 refine wpAnyH_take (i := 59) (v := ?_) rfl (by kernel_rfl) (by kernel_rfl) (by kernel_rfl) (fun _ _ _ h => h) (Or.inl ⟨by rfl, ?_⟩) hS ?_
 rotate_left
 ·(intro wq hSw; go_simp; try with_reducible rfl)
 simp only [List.getElem_toArray, Act.put]
 refine wpAnyH_take (i := 61) (v := ?_) rfl (by kernel_rfl) (by kernel_rfl) (by kernel_rfl) (fun _ _ _ h => h) (Or.inl ⟨by rfl, ?_⟩) hS ?_
 rotate_left
 ·(intro wq hSw; go_simp; try with_reducible rfl)
 simp only [List.getElem_toArray, Act.put]
 refine wpAnyH_take (i := 62) (v := ?_) rfl (by kernel_rfl) (by kernel_rfl) (by kernel_rfl) (fun _ _ _ h => h) (Or.inl ⟨by rfl, ?_⟩) hS ?_
 rotate_left
 ·(intro wq hSw; have hq := (HU1.out.keep hSw fun h => h).cell 7; simp only [List.getElem?_toArray, List.getElem?_cons_zero, List.getElem?_cons_succ] at hq; go_simp; try with_reducible rfl)
 simp only [List.getElem_toArray, Act.put]
 refine wpAnyH_take (i := 63) (v := ?_) rfl (by kernel_rfl) (by kernel_rfl) (by kernel_rfl) (fun _ _ _ h => h) (Or.inl ⟨by rfl, ?_⟩) hS ?_
 rotate_left
 ·(intro wq hSw; have hq := (HB1.out.keep hSw fun h => h).cell 0; simp only [List.getElem?_toArray, List.getElem?_cons_zero] at hq; go_simp; try with_reducible rfl)
 simp only [List.getElem_toArray, Act.put]
 refine wpAnyH_take (i := 64) (v := ?_) rfl (by kernel_rfl) (by kernel_rfl) (by kernel_rfl) (fun _ _ _ h => h) (Or.inl ⟨by rfl, ?_⟩) hS ?_
 rotate_left
 ·(intro wq hSw; go_simp; try with_reducible rfl)
 simp only [List.getElem_toArray, Act.put]
 refine wpAnyH_take (i := 65) (v := ?_) rfl (by kernel_rfl) (by kernel_rfl) (by kernel_rfl) (fun _ _ _ h => h) (Or.inl ⟨by rfl, ?_⟩) hS ?_
 rotate_left
 ·(intro wq hSw; go_simp; try with_reducible rfl)
 simp only [List.getElem_toArray, Act.put]
 refine wpAnyH_take (i := 66) (v := ?_) rfl (by kernel_rfl) (by kernel_rfl) (by kernel_rfl) (fun _ _ _ h => h) (Or.inl ⟨by rfl, ?_⟩) hS ?_
 rotate_left
 ·(intro wq hSw; have hq := (HG1.out.keep hSw fun h => h).cell 12; unfold rcs at hq; simp only [List.getElem?_toArray, List.getElem?_cons_zero, List.getElem?_cons_succ] at hq; go_simp; try with_reducible rfl)
 simp only [List.getElem_toArray, Act.put]
 refine wpAnyH_take (i := 67) (v := ?_) rfl (by kernel_rfl) (by kernel_rfl) (by kernel_rfl) (fun _ _ _ h => h) (Or.inl ⟨by rfl, ?_⟩) hS ?_
 rotate_left
 ·(intro wq hSw; go_simp; try with_reducible rfl)
 simp only [List.getElem_toArray, Act.put]
 refine wpAnyH_take (i := 69) (v := ?_) rfl (by kernel_rfl) (by kernel_rfl) (by kernel_rfl) (fun _ _ _ h => h) (Or.inl ⟨by rfl, ?_⟩) hS ?_
 rotate_left
 ·(intro wq hSw; go_simp; try with_reducible rfl)
 simp only [List.getElem_toArray, Act.put]
 refine wpAnyH_take (i := 70) (v := ?_) rfl (by kernel_rfl) (by kernel_rfl) (by kernel_rfl) (fun _ _ _ h => h) (Or.inl ⟨by rfl, ?_⟩) hS ?_
 rotate_left
 ·(intro wq hSw; have hq := (HU1.out.keep hSw fun h => h).cell 8; simp only [List.getElem?_toArray, List.getElem?_cons_zero, List.getElem?_cons_succ] at hq; go_simp; try with_reducible rfl)
 simp only [List.getElem_toArray, Act.put]
 refine wpAnyH_take (i := 71) (v := ?_) rfl (by kernel_rfl) (by kernel_rfl) (by kernel_rfl) (fun _ _ _ h => h) (Or.inl ⟨by rfl, ?_⟩) hS ?_
 rotate_left
 ·(intro wq hSw; have hq := (HB1.out.keep hSw fun h => h).cell 0; simp only [List.getElem?_toArray, List.getElem?_cons_zero] at hq; go_simp; try with_reducible rfl)
 simp only [List.getElem_toArray, Act.put]
 refine wpAnyH_take (i := 72) (v := ?_) rfl (by kernel_rfl) (by kernel_rfl) (by kernel_rfl) (fun _ _ _ h => h) (Or.inl ⟨by rfl, ?_⟩) hS ?_
 rotate_left
 ·(intro wq hSw; go_simp; try with_reducible rfl)
 simp only [List.getElem_toArray, Act.put]
 refine wpAnyH_take (i := 73) (v := ?_) rfl (by kernel_rfl) (by kernel_rfl) (by kernel_rfl) (fun _ _ _ h => h) (Or.inl ⟨by rfl, ?_⟩) hS ?_
 rotate_left
 ·(intro wq hSw; go_simp; try with_reducible rfl)
 simp only [List.getElem_toArray, Act.put]
 refine wpAnyH_take (i := 74) (v := ?_) rfl (by kernel_rfl) (by kernel_rfl) (by kernel_rfl) (fun _ _ _ h => h) (Or.inl ⟨by rfl, ?_⟩) hS ?_
 rotate_left
 ·(intro wq hSw; have hq := (HG1.out.keep hSw fun h => h).cell 13; unfold rcs at hq; simp only [List.getElem?_toArray, List.getElem?_cons_zero, List.getElem?_cons_succ] at hq; go_simp; try with_reducible rfl)
 simp only [List.getElem_toArray, Act.put]
 refine wpAnyH_take (i := 75) (v := ?_) rfl (by kernel_rfl) (by kernel_rfl) (by kernel_rfl) (fun _ _ _ h => h) (Or.inl ⟨by rfl, ?_⟩) hS ?_
 rotate_left
 ·(intro wq hSw; go_simp; try with_reducible rfl)
 simp only [List.getElem_toArray, Act.put]
 refine wpAnyH_take (i := 77) (v := ?_) rfl (by kernel_rfl) (by kernel_rfl) (by kernel_rfl) (fun _ _ _ h => h) (Or.inl ⟨by rfl, ?_⟩) hS ?_
 rotate_left
 ·(intro wq hSw; go_simp; try with_reducible rfl)
 simp only [List.getElem_toArray, Act.put]
 refine wpAnyH_take (i := 78) (v := ?_) rfl (by kernel_rfl) (by kernel_rfl) (by kernel_rfl) (fun _ _ _ h => h) (Or.inl ⟨by rfl, ?_⟩) hS ?_
 rotate_left
 ·(intro wq hSw; have hq := (HU1.out.keep hSw fun h => h).cell 9; simp only [List.getElem?_toArray, List.getElem?_cons_zero, List.getElem?_cons_succ] at hq; go_simp; try with_reducible rfl)
 simp only [List.getElem_toArray, Act.put]
 refine wpAnyH_take (i := 79) (v := ?_) rfl (by kernel_rfl) (by kernel_rfl) (by kernel_rfl) (fun _ _ _ h => h) (Or.inl ⟨by rfl, ?_⟩) hS ?_
 rotate_left
 ·(intro wq hSw; have hq := (HB1.out.keep hSw fun h => h).cell 0; simp only [List.getElem?_toArray, List.getElem?_cons_zero] at hq; go_simp; try with_reducible rfl)
 simp only [List.getElem_toArray, Act.put]
 refine wpAnyH_take (i := 80) (v := ?_) rfl (by kernel_rfl) (by kernel_rfl) (by kernel_rfl) (fun _ _ _ h => h) (Or.inl ⟨by rfl, ?_⟩) hS ?_
 rotate_left
 ·(intro wq hSw; go_simp; try with_reducible rfl)
 simp only [List.getElem_toArray, Act.put]
 refine wpAnyH_take (i := 81) (v := ?_) rfl (by kernel_rfl) (by kernel_rfl) (by kernel_rfl) (fun _ _ _ h => h) (Or.inl ⟨by rfl, ?_⟩) hS ?_
 rotate_left
 ·(intro wq hSw; go_simp; try with_reducible rfl)
 simp only [List.getElem_toArray, Act.put]
 refine wpAnyH_take (i := 82) (v := ?_) rfl (by kernel_rfl) (by kernel_rfl) (by kernel_rfl) (fun _ _ _ h => h) (Or.inl ⟨by rfl, ?_⟩) hS ?_
 rotate_left
 ·(intro wq hSw; have hq := (HG1.out.keep hSw fun h => h).cell 14; unfold rcs at hq; simp only [List.getElem?_toArray, List.getElem?_cons_zero, List.getElem?_cons_succ] at hq; go_simp; try with_reducible rfl)
 simp only [List.getElem_toArray, Act.put]
 refine wpAnyH_take (i := 83) (v := ?_) rfl (by kernel_rfl) (by kernel_rfl) (by kernel_rfl) (fun _ _ _ h => h) (Or.inl ⟨by rfl, ?_⟩) hS ?_
 rotate_left
 ·(intro wq hSw; go_simp; try with_reducible rfl)
 simp only [List.getElem_toArray, Act.put]
 refine wpAnyH_take (i := 84) (v := ?_) rfl (by kernel_rfl) (by kernel_rfl) (by kernel_rfl) (fun _ _ _ h => h) (Or.inl ⟨by rfl, ?_⟩) hS ?_
 rotate_left
 ·(intro wq hSw; go_simp; try with_reducible rfl)
 simp only [List.getElem_toArray, Act.put]
 have HLD1 : Hid (Below w.heap.size w W1.drew) := Lib.hid HL1.out.drew
 refine wpAnyH_ready (rs := [8]) (by kernel_rfl) (by simp) ?_
 refine AllReadyH.cons rfl (fun K hK => ?_) AllReadyH.nil
 go_simp
 refine (number_any W1.drew (uT r.k) r.t 71 w.heap.size).mono ?_
 rintro e w2 ⟨rfl, hbel, hnx, hns, hsz⟩
 clear hsz
 refine hK.out _ _ ?_ (fun hS => ?_)
 ·exact hS.trans (Fr.of_below hbel No) fun _ hn => hn.elim
 clear hK K
 have HN0 : Hid (NB w w2 w.heap.size W1.heap.size r.t 71) := Lib.hid ⟨HLD1.out.size, hnx, hns⟩
 clear hnx hns
 have HLD2 := Lib.hid (HLD1.out.trans (hbel.mono HLD1.out.size))
 clear hbel
 refine wpAnyH_ready (rs := [16]) (by kernel_rfl) (by simp) ?_
 refine AllReadyH.cons rfl (fun K hK => ?_) AllReadyH.nil
 go_simp
 refine (number_any w2 (uP r.k) r.a 72 w.heap.size).mono ?_
 rintro e w3 ⟨rfl, hbel, hnx, hns, hsz⟩
 clear hsz
 refine hK.out _ _ ?_ (fun hS => ?_)
 ·exact hS.trans (Fr.of_below hbel No) fun _ hn => hn.elim
 clear hK K
 have HN0 := Lib.hid (HN0.out.below hbel)
 have HN1 : Hid (NB w w3 w.heap.size w2.heap.size r.a 72) := Lib.hid ⟨HLD2.out.size, hnx, hns⟩
 clear hnx hns
 have HLD3 := Lib.hid (HLD2.out.trans (hbel.mono HLD2.out.size))
 clear hbel
 refine wpAnyH_ready (rs := [24]) (by kernel_rfl) (by simp) ?_
 refine AllReadyH.cons rfl (fun K hK => ?_) AllReadyH.nil
 go_simp
 refine (number_any w3 (uU r.k) r.b 73 w.heap.size).mono ?_
 rintro e w4 ⟨rfl, hbel, hnx, hns, hsz⟩
 clear hsz
 refine hK.out _ _ ?_ (fun hS => ?_)
 ·exact hS.trans (Fr.of_below hbel No) fun _ hn => hn.elim
 clear hK K
 have HN0 := Lib.hid (HN0.out.below hbel)
 have HN1 := Lib.hid (HN1.out.below hbel)
 have HN2 : Hid (NB w w4 w.heap.size w3.heap.size r.b 73) := Lib.hid ⟨HLD3.out.size, hnx, hns⟩
 clear hnx hns
 have HLD4 := Lib.hid (HLD3.out.trans (hbel.mono HLD3.out.size))
 clear hbel
 refine wpAnyH_ready (rs := [33]) (by kernel_rfl) (by simp) ?_
 refine AllReadyH.cons rfl (fun K hK => ?_) AllReadyH.nil
 go_simp
 refine (number_any w4 (uO r.k) r.pg 74 w.heap.size).mono ?_
 rintro e w5 ⟨rfl, hbel, hnx, hns, hsz⟩
 clear hsz
 refine hK.out _ _ ?_ (fun hS => ?_)
 ·exact hS.trans (Fr.of_below hbel No) fun _ hn => hn.elim
 clear hK K
 have HN0 := Lib.hid (HN0.out.below hbel)
 have HN1 := Lib.hid (HN1.out.below hbel)
 have HN2 := Lib.hid (HN2.out.below hbel)
 have HN3 : Hid (NB w w5 w.heap.size w4.heap.size r.pg 74) := Lib.hid ⟨HLD4.out.size, hnx, hns⟩
 clear hnx hns
 have HLD5 := Lib.hid (HLD4.out.trans (hbel.mono HLD4.out.size))
 clear hbel
 refine wpAnyH_ready (rs := [42]) (by kernel_rfl) (by simp) ?_
 refine AllReadyH.cons rfl (fun K hK => ?_) AllReadyH.nil
 go_simp
 refine (number_any w5 (uO r.k) r.rt 75 w.heap.size).mono ?_
 rintro e w6 ⟨rfl, hbel, hnx, hns, hsz⟩
 clear hsz
 refine hK.out _ _ ?_ (fun hS => ?_)
 ·exact hS.trans (Fr.of_below hbel No) fun _ hn => hn.elim
 clear hK K
 have HN0 := Lib.hid (HN0.out.below hbel)
 have HN1 := Lib.hid (HN1.out.below hbel)
 have HN2 := Lib.hid (HN2.out.below hbel)
 have HN3 := Lib.hid (HN3.out.below hbel)
 have HN4 : Hid (NB w w6 w.heap.size w5.heap.size r.rt 75) := Lib.hid ⟨HLD5.out.size, hnx, hns⟩
 clear hnx hns
 have HLD6 := Lib.hid (HLD5.out.trans (hbel.mono HLD5.out.size))
 clear hbel
 refine wpAnyH_ready (rs := [49]) (by kernel_rfl) (by simp) ?_
 refine AllReadyH.cons rfl (fun K hK => ?_) AllReadyH.nil
 go_simp
 refine (isNoOp_any w6 r.o).mono ?_
 rintro e w7 ⟨rfl, hbel⟩
 skip
 refine hK.out _ _ ?_ (fun hS => ?_)
 ·exact hS.trans (Fr.of_below hbel No) fun _ hn => hn.elim
 clear hK K
 have HN0 := Lib.hid (HN0.out.below hbel)
 have HN1 := Lib.hid (HN1.out.below hbel)
 have HN2 := Lib.hid (HN2.out.below hbel)
 have HN3 := Lib.hid (HN3.out.below hbel)
 have HN4 := Lib.hid (HN4.out.below hbel)
 have HLD7 := Lib.hid (HLD6.out.trans (hbel.mono HLD6.out.size))
 clear hbel
 refine wpAnyH_take (i := 52) (v := ?_) rfl (by kernel_rfl) (by kernel_rfl) (by kernel_rfl) (fun _ _ _ h => h) (Or.inl ⟨by rfl, ?_⟩) hS ?_
 rotate_left
 ·(intro wq hSw; go_simp; try with_reducible rfl)
 simp only [List.getElem_toArray, Act.put]
 refine wpAnyH_ready (rs := [60]) (by kernel_rfl) (by simp) ?_
 refine AllReadyH.cons rfl (fun K hK => ?_) AllReadyH.nil
 go_simp
 refine (listIV_any w7 (uI r.k) r.iA r.im r.ic 82 83 84 w.heap.size).mono ?_
 rintro e w8 ⟨rfl, hbel, h1, h2, h3, h4, hsz⟩
 clear hsz
 refine hK.out _ _ ?_ (fun hS => ?_)
 ·exact hS.trans (Fr.of_below hbel No) fun _ hn => hn.elim
 clear hK K
 have HN0 := Lib.hid (HN0.out.below hbel)
 have HN1 := Lib.hid (HN1.out.below hbel)
 have HN2 := Lib.hid (HN2.out.below hbel)
 have HN3 := Lib.hid (HN3.out.below hbel)
 have HN4 := Lib.hid (HN4.out.below hbel)
 have HN6 : Hid (LB w w8 w.heap.size w7.heap.size 27 (.slice r.iA r.im r.ic) 128 82 129 83 130 84) := Lib.hid ⟨HLD7.out.size, h1, h2, h3, h4⟩
 clear h1 h2 h3 h4
 have HLD8 := Lib.hid (HLD7.out.trans (hbel.mono HLD7.out.size))
 clear hbel
 refine wpAnyH_ready (rs := [68]) (by kernel_rfl) (by simp) ?_
 refine AllReadyH.cons rfl (fun K hK => ?_) AllReadyH.nil
 go_simp
 refine (listLV_any w8 (uC r.k) r.lA r.lm r.lc 86 87 88 w.heap.size).mono ?_
 rintro e w9 ⟨rfl, hbel, h1, h2, h3, h4, hsz⟩
 clear hsz
 refine hK.out _ _ ?_ (fun hS => ?_)
 ·exact hS.trans (Fr.of_below hbel No) fun _ hn => hn.elim
 clear hK K
 have HN0 := Lib.hid (HN0.out.below hbel)
 have HN1 := Lib.hid (HN1.out.below hbel)
 have HN2 := Lib.hid (HN2.out.below hbel)
 have HN3 := Lib.hid (HN3.out.below hbel)
 have HN4 := Lib.hid (HN4.out.below hbel)
 have HN6 := Lib.hid (HN6.out.below hbel)
 have HN7 : Hid (LB w w9 w.heap.size w8.heap.size 28 (.slice r.lA r.lm r.lc) 132 86 133 87 134 88) := Lib.hid ⟨HLD8.out.size, h1, h2, h3, h4⟩
 clear h1 h2 h3 h4
 have HLD9 := Lib.hid (HLD8.out.trans (hbel.mono HLD8.out.size))
 clear hbel
 refine wpAnyH_ready (rs := [76]) (by kernel_rfl) (by simp) ?_
 refine AllReadyH.cons rfl (fun K hK => ?_) AllReadyH.nil
 go_simp
 refine (listDV_any w9 (uC r.k) r.dA r.dm r.dc 90 91 92 w.heap.size).mono ?_
 rintro e w10 ⟨rfl, hbel, h1, h2, h3, h4, hsz⟩
 clear hsz
 refine hK.out _ _ ?_ (fun hS => ?_)
 ·exact hS.trans (Fr.of_below hbel No) fun _ hn => hn.elim
 clear hK K
 have HN0 := Lib.hid (HN0.out.below hbel)
 have HN1 := Lib.hid (HN1.out.below hbel)
 have HN2 := Lib.hid (HN2.out.below hbel)
 have HN3 := Lib.hid (HN3.out.below hbel)
 have HN4 := Lib.hid (HN4.out.below hbel)
 have HN6 := Lib.hid (HN6.out.below hbel)
 have HN7 := Lib.hid (HN7.out.below hbel)
 have HN8 : Hid (LB w w10 w.heap.size w9.heap.size 29 (.slice r.dA r.dm r.dc) 136 90 137 91 138 92) := Lib.hid ⟨HLD9.out.size, h1, h2, h3, h4⟩
 clear h1 h2 h3 h4
 have HLD10 := Lib.hid (HLD9.out.trans (hbel.mono HLD9.out.size))
 clear hbel
 refine wpAnyH_ready (rs := [85]) (by kernel_rfl) (by simp) ?_
 refine AllReadyH.cons rfl (fun K hK => ?_) AllReadyH.nil
 go_simp
 refine (number_any w10 (uC r.k) r.nx 93 w.heap.size).mono ?_
 rintro e w11 ⟨rfl, hbel, hnx, hns, hsz⟩
 clear hsz
 refine hK.out _ _ ?_ (fun hS => ?_)
 ·exact hS.trans (Fr.of_below hbel No) fun _ hn => hn.elim
 clear hK K
 have HN0 := Lib.hid (HN0.out.below hbel)
 have HN1 := Lib.hid (HN1.out.below hbel)
 have HN2 := Lib.hid (HN2.out.below hbel)
 have HN3 := Lib.hid (HN3.out.below hbel)
 have HN4 := Lib.hid (HN4.out.below hbel)
 have HN6 := Lib.hid (HN6.out.below hbel)
 have HN7 := Lib.hid (HN7.out.below hbel)
 have HN8 := Lib.hid (HN8.out.below hbel)
 have HN9 : Hid (NB w w11 w.heap.size w10.heap.size r.nx 93) := Lib.hid ⟨HLD10.out.size, hnx, hns⟩
 clear hnx hns
 have HLD11 := Lib.hid (HLD10.out.trans (hbel.mono HLD10.out.size))
 clear hbel
 refine wpAnyH_ready (rs := [86]) (by kernel_rfl) (by simp) ?_
 refine AllReadyH.cons rfl (fun K hK => ?_) AllReadyH.nil
 go_simp
 refine hK.out _ _ (hS.alloc _) (fun hS => ?_)
 clear hK K
 refine wpAnyH_ready (rs := [87]) (by kernel_rfl) (by simp) ?_
 refine AllReadyH.cons rfl (fun K hK => ?_) AllReadyH.nil
 go_simp
 refine hK.out _ _ hS (fun hS => ?_)
 clear hK K
 have hSF := hS
 refine wpAnyH_done (by kernel_rfl) ?_ _
 clear hS
 have hbelF := fun o => (Below.refl w11.heap.size w11).alloc (Nat.le_refl _) o
 go_wp2_with fail
 go_ret
 refine ⟨w11.heap.size, w.heap.size, W1.heap.size, w2.heap.size, w3.heap.size, w4.heap.size, w5.heap.size, w7.heap.size, w8.heap.size, w9.heap.size, w10.heap.size, rfl, HLD11.out.trans ((hbelF _).mono HLD11.out.size), ⟨HLD11.out.size, Nat.le_refl _⟩, ?_, HB1.out.keep hSF fun h => h, HN0.out.below (hbelF _), HN1.out.below (hbelF _), HN2.out.below (hbelF _), HN3.out.below (hbelF _), HN4.out.below (hbelF _), HN6.out.below (hbelF _), HN7.out.below (hbelF _), HN8.out.below (hbelF _), HN9.out.below (hbelF _)⟩
 exact Blk.new w11 87 _
end Go.Proofs.YtdhgbkibbileiaaGreat
