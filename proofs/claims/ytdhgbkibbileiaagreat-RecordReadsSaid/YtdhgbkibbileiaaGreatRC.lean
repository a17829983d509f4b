/-
RC RD
-/
import Derived.Test.YtdhgbkibbileiaaGreatRB
import Derived.Handy
import Derived.Laws.EntriesVeiled
set_option maxRecDepth 100000
namespace Go.Proofs.YtdhgbkibbileiaaGreat
open Go.RowKit
structure RV where
 k : Int
 s : Nat
 t : Nat
 a : Nat
 b : Nat
 pg : Nat
 rt : Nat
 o : OV
 iA : Option Addr
 im : Nat
 ic : Nat
 il : List IV
 lA : Option Addr
 lm : Nat
 lc : Nat
 ll : List LV
 dA : Option Addr
 dm : Nat
 dc : Nat
 dl : List DV
 nx : Nat
def RV.agg (r : RV) : Value := .agg #[.int .i64 r.k, .int .u64 (r.s : Int), .int .u32 (r.t : Int), .int .u64 (r.a : Int), .int .u64 (r.b : Int), .int .u32 (r.pg : Int), .int .u32 (r.rt : Int), .int .i64 r.o.k, .int .i64 r.o.s, .int .u32 (r.o.t : Int), .slice r.o.A r.o.m r.o.c, .slice r.iA r.im r.ic, .slice r.lA r.lm r.lc, .slice r.dA r.dm r.dc, .int .u32 (r.nx : Int)]
def rcs (r : RV) : Array Value := #[.int .i64 r.k, .int .u64 (r.s : Int), .int .u32 (r.t : Int), .int .u64 (r.a : Int), .int .u64 (r.b : Int), .int .u32 (r.pg : Int), .int .u32 (r.rt : Int), .int .i64 r.o.k, .int .i64 r.o.s, .int .u32 (r.o.t : Int), .slice r.o.A r.o.m r.o.c, .slice r.iA r.im r.ic, .slice r.lA r.lm r.lc, .slice r.dA r.dm r.dc, .int .u32 (r.nx : Int)]
structure RV.In (w : World) (T : Nat → Prop) (r : RV) : Prop where
 k1 : -9223372036854775808 ≤ r.k
 k2 : r.k ≤ 9223372036854775807
 s : r.s < 18446744073709551616
 t : r.t < 4294967296
 a : r.a < 18446744073709551616
 b : r.b < 18446744073709551616
 pg : r.pg < 4294967296
 rt : r.rt < 4294967296
 o : r.o.In w T
 i : IVR w T r.iA r.im r.il
 l : LVR w T r.lA r.lm r.ll
 d : DVR w T r.dA r.dm r.dl
 nx : r.nx < 4294967296
theorem OV.In.keep {w w' : World} {T U : Nat → Prop} {o : OV} (h : o.In w T) (hf : Fr w w' U) (hd : ∀ b, T b → ¬ U b) : o.In w' T := ⟨h.b.keep hf hd, h.k1, h.k2, h.s1, h.s2, h.t, h.mc, h.ml, h.nz⟩
theorem OV.In.mono {w : World} {T T' : Nat → Prop} {o : OV} (h : o.In w T) (hd : ∀ b, b < w.heap.size → T b → T' b) : o.In w T' := ⟨h.b.mono hd, h.k1, h.k2, h.s1, h.s2, h.t, h.mc, h.ml, h.nz⟩
theorem RV.In.keep {w w' : World} {T U : Nat → Prop} {r : RV} (h : r.In w T) (hf : Fr w w' U) (hd : ∀ b, T b → ¬ U b) : r.In w' T := ⟨h.k1, h.k2, h.s, h.t, h.a, h.b, h.pg, h.rt, h.o.keep hf hd, h.i.keep hf hd, h.l.keep hf hd, h.d.keep hf hd, h.nx⟩
theorem RV.In.mono {w : World} {T T' : Nat → Prop} {r : RV} (h : r.In w T) (hd : ∀ b, b < w.heap.size → T b → T' b) : r.In w T' := ⟨h.k1, h.k2, h.s, h.t, h.a, h.b, h.pg, h.rt, h.o.mono hd, h.i.mono hd, h.l.mono hd, h.d.mono hd, h.nx⟩
def uT (k : Int) : Bool := decide (k = 1 ∨ k = 2 ∨ k = 3 ∨ k = 5 ∨ k = 6 ∨ k = 7)
def uP (k : Int) : Bool := decide (k = 2 ∨ k = 3 ∨ k = 5 ∨ k = 6 ∨ k = 7)
def uU (k : Int) : Bool := decide (k = 3)
def uO (k : Int) : Bool := decide (k = 2 ∨ k = 3)
def uI (k : Int) : Bool := decide (k = 4)
def uC (k : Int) : Bool := decide (k = 8)
def usesV (k : Int) : Value := .agg #[.bool (uT k), .bool (uP k), .bool (uU k), .bool (uO k), .bool (uO k), .bool (uO k), .bool (uI k), .bool (uC k), .bool (uC k), .bool (uC k)]
set_option maxHeartbeats 4000000 in
theorem usedBy_any (w : World) (k : Int) : Calls Tryz.prog 69 #[.int .i64 k] w fun e w' => e = .returned (usesV k) ∧ Below w.heap.size w w' := by
 by_cases h1 : k = 1
 ·subst h1
  go_enter Tryz.func69, Tryz.ntmps69
  go_wp2
  go_returns
  refine ⟨?_, ?_⟩
  ·rfl
  ·exact ((Below.refl w.heap.size w).alloc (Nat.le_refl _) _).alloc (by simp) _
 by_cases h2 : k = 2
 ·subst h2
  go_enter Tryz.func69, Tryz.ntmps69
  go_wp2
  go_returns
  refine ⟨?_, ?_⟩
  ·rfl
  ·exact ((Below.refl w.heap.size w).alloc (Nat.le_refl _) _).alloc (by simp) _
 by_cases h3 : k = 3
 ·subst h3
  go_enter Tryz.func69, Tryz.ntmps69
  go_wp2
  go_returns
  refine ⟨?_, ?_⟩
  ·rfl
  ·exact ((Below.refl w.heap.size w).alloc (Nat.le_refl _) _).alloc (by simp) _
 by_cases h4 : k = 4
 ·subst h4
  go_enter Tryz.func69, Tryz.ntmps69
  go_wp2
  go_returns
  refine ⟨?_, ?_⟩
  ·rfl
  ·exact ((Below.refl w.heap.size w).alloc (Nat.le_refl _) _).alloc (by simp) _
 by_cases h5 : k = 5
 ·subst h5
  go_enter Tryz.func69, Tryz.ntmps69
  go_wp2
  go_returns
  refine ⟨?_, ?_⟩
  ·rfl
  ·exact ((Below.refl w.heap.size w).alloc (Nat.le_refl _) _).alloc (by simp) _
 by_cases h6 : k = 6
 ·subst h6
  go_enter Tryz.func69, Tryz.ntmps69
  go_wp2
  go_returns
  refine ⟨?_, ?_⟩
  ·rfl
  ·exact ((Below.refl w.heap.size w).alloc (Nat.le_refl _) _).alloc (by simp) _
 by_cases h7 : k = 7
 ·subst h7
  go_enter Tryz.func69, Tryz.ntmps69
  go_wp2
  go_returns
  refine ⟨?_, ?_⟩
  ·rfl
  ·exact ((Below.refl w.heap.size w).alloc (Nat.le_refl _) _).alloc (by simp) _
 by_cases h8 : k = 8
 ·subst h8
  go_enter Tryz.func69, Tryz.ntmps69
  go_wp2
  go_returns
  refine ⟨?_, ?_⟩
  ·rfl
  ·exact ((Below.refl w.heap.size w).alloc (Nat.le_refl _) _).alloc (by simp) _
 have e1 : (k == 1) = false := beq_false_of_ne h1
 have e2 : (k == 2) = false := beq_false_of_ne h2
 have e3 : (k == 3) = false := beq_false_of_ne h3
 have e4 : (k == 4) = false := beq_false_of_ne h4
 have e5 : (k == 5) = false := beq_false_of_ne h5
 have e6 : (k == 6) = false := beq_false_of_ne h6
 have e7 : (k == 7) = false := beq_false_of_ne h7
 have e8 : (k == 8) = false := beq_false_of_ne h8
 have hv : usesV k = .agg #[.bool false, .bool false, .bool false, .bool false, .bool false, .bool false, .bool false, .bool false, .bool false, .bool false] := by
  unfold usesV uT uP uU uO uI uC
  simp only [h1, h2, h3, h4, h5, h6, h7, h8, or_self, decide_false]
 clear h1 h2 h3 h4 h5 h6 h7 h8
 rw [hv]
 clear hv
 go_enter Tryz.func69, Tryz.ntmps69
 go_wp2
 go_returns
 refine ⟨?_, ?_⟩
 ·rfl
 ·exact ((Below.refl w.heap.size w).alloc (Nat.le_refl _) _).alloc (by simp) _
def noop (o : OV) : Bool := decide (o.k = 0) && (decide (o.s = 0) && (decide (o.t = 0) && decide (o.m = 0)))
set_option maxHeartbeats 2000000 in
theorem isNoOp_any (w : World) (o : OV) : Calls Tryz.prog 76 #[o.agg] w fun e w' => e = .returned (.bool (noop o)) ∧ Below w.heap.size w w' := by
 obtain ⟨W, hW, hBW, hbx, hsz⟩ := box_op w o
 obtain ⟨y0, y1, y2, y3⟩ := ocs_cells hbx
 have HBW := Lib.hid hBW
 obtain ⟨ok, os, ot, oA, om, oc, od⟩ := o
 simp only at hW y0 y1 y2 y3
 simp only [OV.agg]
 unfold noop
 clear hBW hbx hsz
 by_cases h0 : ok = 0
 ·have e0 : (ok == 0) = true := by rw [beq_iff_eq]; exact h0
  by_cases h1 : os = 0
  ·have e1 : (os == 0) = true := by rw [beq_iff_eq]; exact h1
   by_cases h2 : ot = 0
   ·have e2 : ((ot : Int) == 0) = true := by rw [beq_iff_eq]; omega
    by_cases h3 : om = 0
    ·have e3 : ((om : Int) == 0) = true := by rw [beq_iff_eq]; omega
     have hg : (decide (ok = 0) && (decide (os = 0) && (decide (ot = 0) && decide (om = 0)))) = true := by simp [h0, h1, h2, h3]
     simp only [hg]
     clear h0 h1 h2 h3 hg
     go_enter Tryz.func76, Tryz.ntmps76
     go_wp2
     go_ret
     exact ⟨rfl, HBW.out⟩
    ·have e3 : ((om : Int) == 0) = false := beq_false_of_ne (by omega)
     have hg : (decide (ok = 0) && (decide (os = 0) && (decide (ot = 0) && decide (om = 0)))) = false := by simp [h3]
     simp only [hg]
     clear h0 h1 h2 h3 hg
     go_enter Tryz.func76, Tryz.ntmps76
     go_wp2
     go_ret
     exact ⟨rfl, HBW.out⟩
   ·have e2 : ((ot : Int) == 0) = false := beq_false_of_ne (by omega)
    have hg : (decide (ok = 0) && (decide (os = 0) && (decide (ot = 0) && decide (om = 0)))) = false := by simp [h2]
    simp only [hg]
    clear h0 h1 h2 hg
    go_enter Tryz.func76, Tryz.ntmps76
    go_wp2
    go_ret
    exact ⟨rfl, HBW.out⟩
  ·have e1 : (os == 0) = false := beq_false_of_ne h1
   have hg : (decide (ok = 0) && (decide (os = 0) && (decide (ot = 0) && decide (om = 0)))) = false := by simp [h1]
   simp only [hg]
   clear h0 h1 hg
   go_enter Tryz.func76, Tryz.ntmps76
   go_wp2
   go_ret
   exact ⟨rfl, HBW.out⟩
 ·have e0 : (ok == 0) = false := beq_false_of_ne h0
  have hg : (decide (ok = 0) && (decide (os = 0) && (decide (ot = 0) && decide (om = 0)))) = false := by simp [h0]
  simp only [hg]
  clear h0 hg
  go_enter Tryz.func76, Tryz.ntmps76
  go_wp2
  go_ret
  exact ⟨rfl, HBW.out⟩
end Go.Proofs.YtdhgbkibbileiaaGreat
set_option maxRecDepth 100000
namespace Go.Proofs.YtdhgbkibbileiaaGreat
open Go.RowKit
set_option maxHeartbeats 2000000 in
theorem number_any (w : World) (u : Bool) (x f : Nat) (br : Nat) : Calls Tryz.prog 70 #[.bool u, .int .u64 (x : Int), .func (.func f) #[] #[.pointer (some ⟨br, 0, none⟩)]] w fun e w' =>
  e = .returned (.agg #[.bool u, .bool (decide (x = 0)), .func (.func 105) #[] #[.pointer (some ⟨w.heap.size, 0, none⟩)], .func (.func 107) #[] #[.pointer (some ⟨(w.heap.size + 1), 0, none⟩)]]) ∧ Below w.heap.size w w' ∧ Blk w' w.heap.size 22 #[.int .u64 (x : Int)] ∧ Blk w' (w.heap.size + 1) 123 #[.func (.func f) #[] #[.pointer (some ⟨br, 0, none⟩)]] ∧ w'.heap.size = w.heap.size + 3 := by
 have hmf : ∀ (fn : Fn) (first cap : Array Value) (w : World), (Instr.makeFunc fn first cap).run Tryz.prog w = .ok (.func fn first cap) w := fun _ _ _ _ => rfl
 obtain ⟨z, hz⟩ : ∃ z, z = decide (x = 0) := ⟨_, rfl⟩
 have e0 : ((x : Int) == 0) = z := by rw [hz, Bool.eq_iff_iff, beq_iff_eq, decide_eq_true_eq]; omega
 rw [← hz]
 obtain ⟨w1, hw1⟩ : ∃ w1, w.alloc (.cells #[.int .u64 (x : Int)] 22) = w1 := ⟨_, rfl⟩
 obtain ⟨w2, hw2⟩ : ∃ w2, w1.alloc (.cells #[.func (.func f) #[] #[.pointer (some ⟨br, 0, none⟩)]] 123) = w2 := ⟨_, rfl⟩
 have hb1 : Blk w1 w.heap.size 22 #[.int .u64 (x : Int)] := by rw [← hw1]; exact Blk.new w 22 _
 have hs1 : w1.heap.size = w.heap.size + 1 := by rw [← hw1]; simp
 have hb1' : Blk w2 w.heap.size 22 #[.int .u64 (x : Int)] := by rw [← hw2]; exact hb1.alloc _
 have hb2 : Blk w2 w1.heap.size 123 #[.func (.func f) #[] #[.pointer (some ⟨br, 0, none⟩)]] := by rw [← hw2]; exact Blk.new w1 123 _
 have hs2 : w2.heap.size = w.heap.size + 2 := by rw [← hw2]; simp; omega
 have hB : Below w.heap.size w w2 := by rw [← hw2, ← hw1]; exact ((Below.refl _ _).alloc (Nat.le_refl _) _).alloc (by simp) _
 have HALL := Lib.hid (show Blk w2 w.heap.size 22 #[.int .u64 (x : Int)] ∧ Blk w2 w1.heap.size 123 #[.func (.func f) #[] #[.pointer (some ⟨br, 0, none⟩)]] ∧ Below w.heap.size w w2 ∧ w1.heap.size = w.heap.size + 1 ∧ w2.heap.size = w.heap.size + 2 from ⟨hb1', hb2, hB, hs1, hs2⟩)
 have c0 := (hb1'.alloc (.cells #[.bool false, .bool false, .nilFunc, .nilFunc] 87)).cell 0
 simp only [List.getElem?_toArray, List.getElem?_cons_zero] at c0
 clear hz hb1 hb1' hb2 hs1 hs2 hB
 go_enter Tryz.func70, Tryz.ntmps70
 go_wp2
 go_returns
 obtain ⟨a, b, c, d, e⟩ := HALL.out
 refine ⟨by rw [d], c.alloc (by omega) _, a.alloc _, ?_, by simp; omega⟩
 rw [← d]
 exact b.alloc _
set_option maxHeartbeats 2000000 in
theorem listIV_any (w : World) (u : Bool) (A : Option Addr) (n c fw fr fs br : Nat) : Calls Tryz.prog 81 #[.bool u, .slice A n c, .func (.func fw) #[] #[], .func (.func fr) #[] #[], .func (.func fs) #[] #[.pointer (some ⟨br, 0, none⟩)]] w fun e w' =>
  e = .returned (.agg #[.bool u, .bool (decide (n = 0)), .func (.func 111) #[] #[.pointer (some ⟨w.heap.size, 0, none⟩), .pointer (some ⟨(w.heap.size + 1), 0, none⟩)], .func (.func 113) #[] #[.pointer (some ⟨(w.heap.size + 3), 0, none⟩), .pointer (some ⟨(w.heap.size + 2), 0, none⟩)]]) ∧ Below w.heap.size w w' ∧
    Blk w' w.heap.size 27 #[.slice A n c] ∧ Blk w' (w.heap.size + 1) 128 #[.func (.func fw) #[] #[]] ∧ Blk w' (w.heap.size + 2) 129 #[.func (.func fr) #[] #[]] ∧ Blk w' (w.heap.size + 3) 130 #[.func (.func fs) #[] #[.pointer (some ⟨br, 0, none⟩)]] ∧ w'.heap.size = w.heap.size + 5 := by
 have hmf : ∀ (fn : Fn) (first cap : Array Value) (w : World), (Instr.makeFunc fn first cap).run Tryz.prog w = .ok (.func fn first cap) w := fun _ _ _ _ => rfl
 obtain ⟨z, hz⟩ : ∃ z, z = decide (n = 0) := ⟨_, rfl⟩
 have e0 : ((n : Int) == 0) = z := by rw [hz, Bool.eq_iff_iff, beq_iff_eq, decide_eq_true_eq]; omega
 rw [← hz]
 obtain ⟨w1, hw1⟩ : ∃ w1, w.alloc (.cells #[.slice A n c] 27) = w1 := ⟨_, rfl⟩
 obtain ⟨w2, hw2⟩ : ∃ w2, w1.alloc (.cells #[.func (.func fw) #[] #[]] 128) = w2 := ⟨_, rfl⟩
 obtain ⟨w3, hw3⟩ : ∃ w3, w2.alloc (.cells #[.func (.func fr) #[] #[]] 129) = w3 := ⟨_, rfl⟩
 obtain ⟨w4, hw4⟩ : ∃ w4, w3.alloc (.cells #[.func (.func fs) #[] #[.pointer (some ⟨br, 0, none⟩)]] 130) = w4 := ⟨_, rfl⟩
 have hs1 : w1.heap.size = w.heap.size + 1 := by rw [← hw1]; simp
 have hs2 : w2.heap.size = w.heap.size + 2 := by rw [← hw2]; simp; omega
 have hs3 : w3.heap.size = w.heap.size + 3 := by rw [← hw3]; simp; omega
 have hs4 : w4.heap.size = w.heap.size + 4 := by rw [← hw4]; simp; omega
 have b1 : Blk w4 w.heap.size 27 #[.slice A n c] := by rw [← hw4, ← hw3, ← hw2, ← hw1]; exact (((Blk.new w 27 _).alloc _).alloc _).alloc _
 have b2 : Blk w4 w1.heap.size 128 #[.func (.func fw) #[] #[]] := by rw [← hw4, ← hw3, ← hw2]; exact ((Blk.new w1 128 _).alloc _).alloc _
 have b3 : Blk w4 w2.heap.size 129 #[.func (.func fr) #[] #[]] := by rw [← hw4, ← hw3]; exact (Blk.new w2 129 _).alloc _
 have b4 : Blk w4 w3.heap.size 130 #[.func (.func fs) #[] #[.pointer (some ⟨br, 0, none⟩)]] := by rw [← hw4]; exact Blk.new w3 130 _
 have hB : Below w.heap.size w w4 := by rw [← hw4, ← hw3, ← hw2, ← hw1]; exact ((((Below.refl _ _).alloc (Nat.le_refl _) _).alloc (by simp) _).alloc (by simp; omega) _).alloc (by simp; omega) _
 have HALL := Lib.hid (show Blk w4 w.heap.size 27 #[.slice A n c] ∧ Blk w4 w1.heap.size 128 #[.func (.func fw) #[] #[]] ∧ Blk w4 w2.heap.size 129 #[.func (.func fr) #[] #[]] ∧ Blk w4 w3.heap.size 130 #[.func (.func fs) #[] #[.pointer (some ⟨br, 0, none⟩)]] ∧ Below w.heap.size w w4 ∧ w1.heap.size = w.heap.size + 1 ∧ w2.heap.size = w.heap.size + 2 ∧ w3.heap.size = w.heap.size + 3 ∧ w4.heap.size = w.heap.size + 4 from ⟨b1, b2, b3, b4, hB, hs1, hs2, hs3, hs4⟩)
 have c0 := (b1.alloc (.cells #[.bool false, .bool false, .nilFunc, .nilFunc] 87)).cell 0
 simp only [List.getElem?_toArray, List.getElem?_cons_zero] at c0
 clear hz b1 b2 b3 b4 hs1 hs2 hs3 hs4 hB
 go_enter Tryz.func81, Tryz.ntmps81
 go_wp2
 go_returns
 obtain ⟨a1, a2, a3, a4, hb, d1, d2, d3, d4⟩ := HALL.out
 refine ⟨by rw [d1, d2, d3], hb.alloc (by omega) _, a1.alloc _, ?_, ?_, ?_, by simp; omega⟩
 ·rw [← d1]; exact a2.alloc _
 ·rw [← d2]; exact a3.alloc _
 ·rw [← d3]; exact a4.alloc _
set_option maxHeartbeats 2000000 in
theorem listLV_any (w : World) (u : Bool) (A : Option Addr) (n c fw fr fs br : Nat) : Calls Tryz.prog 85 #[.bool u, .slice A n c, .func (.func fw) #[] #[], .func (.func fr) #[] #[], .func (.func fs) #[] #[.pointer (some ⟨br, 0, none⟩)]] w fun e w' =>
  e = .returned (.agg #[.bool u, .bool (decide (n = 0)), .func (.func 119) #[] #[.pointer (some ⟨w.heap.size, 0, none⟩), .pointer (some ⟨(w.heap.size + 1), 0, none⟩)], .func (.func 121) #[] #[.pointer (some ⟨(w.heap.size + 3), 0, none⟩), .pointer (some ⟨(w.heap.size + 2), 0, none⟩)]]) ∧ Below w.heap.size w w' ∧
    Blk w' w.heap.size 28 #[.slice A n c] ∧ Blk w' (w.heap.size + 1) 132 #[.func (.func fw) #[] #[]] ∧ Blk w' (w.heap.size + 2) 133 #[.func (.func fr) #[] #[]] ∧ Blk w' (w.heap.size + 3) 134 #[.func (.func fs) #[] #[.pointer (some ⟨br, 0, none⟩)]] ∧ w'.heap.size = w.heap.size + 5 := by
 have hmf : ∀ (fn : Fn) (first cap : Array Value) (w : World), (Instr.makeFunc fn first cap).run Tryz.prog w = .ok (.func fn first cap) w := fun _ _ _ _ => rfl
 obtain ⟨z, hz⟩ : ∃ z, z = decide (n = 0) := ⟨_, rfl⟩
 have e0 : ((n : Int) == 0) = z := by rw [hz, Bool.eq_iff_iff, beq_iff_eq, decide_eq_true_eq]; omega
 rw [← hz]
 obtain ⟨w1, hw1⟩ : ∃ w1, w.alloc (.cells #[.slice A n c] 28) = w1 := ⟨_, rfl⟩
 obtain ⟨w2, hw2⟩ : ∃ w2, w1.alloc (.cells #[.func (.func fw) #[] #[]] 132) = w2 := ⟨_, rfl⟩
 obtain ⟨w3, hw3⟩ : ∃ w3, w2.alloc (.cells #[.func (.func fr) #[] #[]] 133) = w3 := ⟨_, rfl⟩
 obtain ⟨w4, hw4⟩ : ∃ w4, w3.alloc (.cells #[.func (.func fs) #[] #[.pointer (some ⟨br, 0, none⟩)]] 134) = w4 := ⟨_, rfl⟩
 have hs1 : w1.heap.size = w.heap.size + 1 := by rw [← hw1]; simp
 have hs2 : w2.heap.size = w.heap.size + 2 := by rw [← hw2]; simp; omega
 have hs3 : w3.heap.size = w.heap.size + 3 := by rw [← hw3]; simp; omega
 have hs4 : w4.heap.size = w.heap.size + 4 := by rw [← hw4]; simp; omega
 have b1 : Blk w4 w.heap.size 28 #[.slice A n c] := by rw [← hw4, ← hw3, ← hw2, ← hw1]; exact (((Blk.new w 28 _).alloc _).alloc _).alloc _
 have b2 : Blk w4 w1.heap.size 132 #[.func (.func fw) #[] #[]] := by rw [← hw4, ← hw3, ← hw2]; exact ((Blk.new w1 132 _).alloc _).alloc _
 have b3 : Blk w4 w2.heap.size 133 #[.func (.func fr) #[] #[]] := by rw [← hw4, ← hw3]; exact (Blk.new w2 133 _).alloc _
 have b4 : Blk w4 w3.heap.size 134 #[.func (.func fs) #[] #[.pointer (some ⟨br, 0, none⟩)]] := by rw [← hw4]; exact Blk.new w3 134 _
 have hB : Below w.heap.size w w4 := by rw [← hw4, ← hw3, ← hw2, ← hw1]; exact ((((Below.refl _ _).alloc (Nat.le_refl _) _).alloc (by simp) _).alloc (by simp; omega) _).alloc (by simp; omega) _
 have HALL := Lib.hid (show Blk w4 w.heap.size 28 #[.slice A n c] ∧ Blk w4 w1.heap.size 132 #[.func (.func fw) #[] #[]] ∧ Blk w4 w2.heap.size 133 #[.func (.func fr) #[] #[]] ∧ Blk w4 w3.heap.size 134 #[.func (.func fs) #[] #[.pointer (some ⟨br, 0, none⟩)]] ∧ Below w.heap.size w w4 ∧ w1.heap.size = w.heap.size + 1 ∧ w2.heap.size = w.heap.size + 2 ∧ w3.heap.size = w.heap.size + 3 ∧ w4.heap.size = w.heap.size + 4 from ⟨b1, b2, b3, b4, hB, hs1, hs2, hs3, hs4⟩)
 have c0 := (b1.alloc (.cells #[.bool false, .bool false, .nilFunc, .nilFunc] 87)).cell 0
 simp only [List.getElem?_toArray, List.getElem?_cons_zero] at c0
 clear hz b1 b2 b3 b4 hs1 hs2 hs3 hs4 hB
 go_enter Tryz.func85, Tryz.ntmps85
 go_wp2
 go_returns
 obtain ⟨a1, a2, a3, a4, hb, d1, d2, d3, d4⟩ := HALL.out
 refine ⟨by rw [d1, d2, d3], hb.alloc (by omega) _, a1.alloc _, ?_, ?_, ?_, by simp; omega⟩
 ·rw [← d1]; exact a2.alloc _
 ·rw [← d2]; exact a3.alloc _
 ·rw [← d3]; exact a4.alloc _
set_option maxHeartbeats 2000000 in
theorem listDV_any (w : World) (u : Bool) (A : Option Addr) (n c fw fr fs br : Nat) : Calls Tryz.prog 89 #[.bool u, .slice A n c, .func (.func fw) #[] #[], .func (.func fr) #[] #[], .func (.func fs) #[] #[.pointer (some ⟨br, 0, none⟩)]] w fun e w' =>
  e = .returned (.agg #[.bool u, .bool (decide (n = 0)), .func (.func 123) #[] #[.pointer (some ⟨w.heap.size, 0, none⟩), .pointer (some ⟨(w.heap.size + 1), 0, none⟩)], .func (.func 125) #[] #[.pointer (some ⟨(w.heap.size + 3), 0, none⟩), .pointer (some ⟨(w.heap.size + 2), 0, none⟩)]]) ∧ Below w.heap.size w w' ∧
    Blk w' w.heap.size 29 #[.slice A n c] ∧ Blk w' (w.heap.size + 1) 136 #[.func (.func fw) #[] #[]] ∧ Blk w' (w.heap.size + 2) 137 #[.func (.func fr) #[] #[]] ∧ Blk w' (w.heap.size + 3) 138 #[.func (.func fs) #[] #[.pointer (some ⟨br, 0, none⟩)]] ∧ w'.heap.size = w.heap.size + 5 := by
 have hmf : ∀ (fn : Fn) (first cap : Array Value) (w : World), (Instr.makeFunc fn first cap).run Tryz.prog w = .ok (.func fn first cap) w := fun _ _ _ _ => rfl
 obtain ⟨z, hz⟩ : ∃ z, z = decide (n = 0) := ⟨_, rfl⟩
 have e0 : ((n : Int) == 0) = z := by rw [hz, Bool.eq_iff_iff, beq_iff_eq, decide_eq_true_eq]; omega
 rw [← hz]
 obtain ⟨w1, hw1⟩ : ∃ w1, w.alloc (.cells #[.slice A n c] 29) = w1 := ⟨_, rfl⟩
 obtain ⟨w2, hw2⟩ : ∃ w2, w1.alloc (.cells #[.func (.func fw) #[] #[]] 136) = w2 := ⟨_, rfl⟩
 obtain ⟨w3, hw3⟩ : ∃ w3, w2.alloc (.cells #[.func (.func fr) #[] #[]] 137) = w3 := ⟨_, rfl⟩
 obtain ⟨w4, hw4⟩ : ∃ w4, w3.alloc (.cells #[.func (.func fs) #[] #[.pointer (some ⟨br, 0, none⟩)]] 138) = w4 := ⟨_, rfl⟩
 have hs1 : w1.heap.size = w.heap.size + 1 := by rw [← hw1]; simp
 have hs2 : w2.heap.size = w.heap.size + 2 := by rw [← hw2]; simp; omega
 have hs3 : w3.heap.size = w.heap.size + 3 := by rw [← hw3]; simp; omega
 have hs4 : w4.heap.size = w.heap.size + 4 := by rw [← hw4]; simp; omega
 have b1 : Blk w4 w.heap.size 29 #[.slice A n c] := by rw [← hw4, ← hw3, ← hw2, ← hw1]; exact (((Blk.new w 29 _).alloc _).alloc _).alloc _
 have b2 : Blk w4 w1.heap.size 136 #[.func (.func fw) #[] #[]] := by rw [← hw4, ← hw3, ← hw2]; exact ((Blk.new w1 136 _).alloc _).alloc _
 have b3 : Blk w4 w2.heap.size 137 #[.func (.func fr) #[] #[]] := by rw [← hw4, ← hw3]; exact (Blk.new w2 137 _).alloc _
 have b4 : Blk w4 w3.heap.size 138 #[.func (.func fs) #[] #[.pointer (some ⟨br, 0, none⟩)]] := by rw [← hw4]; exact Blk.new w3 138 _
 have hB : Below w.heap.size w w4 := by rw [← hw4, ← hw3, ← hw2, ← hw1]; exact ((((Below.refl _ _).alloc (Nat.le_refl _) _).alloc (by simp) _).alloc (by simp; omega) _).alloc (by simp; omega) _
 have HALL := Lib.hid (show Blk w4 w.heap.size 29 #[.slice A n c] ∧ Blk w4 w1.heap.size 136 #[.func (.func fw) #[] #[]] ∧ Blk w4 w2.heap.size 137 #[.func (.func fr) #[] #[]] ∧ Blk w4 w3.heap.size 138 #[.func (.func fs) #[] #[.pointer (some ⟨br, 0, none⟩)]] ∧ Below w.heap.size w w4 ∧ w1.heap.size = w.heap.size + 1 ∧ w2.heap.size = w.heap.size + 2 ∧ w3.heap.size = w.heap.size + 3 ∧ w4.heap.size = w.heap.size + 4 from ⟨b1, b2, b3, b4, hB, hs1, hs2, hs3, hs4⟩)
 have c0 := (b1.alloc (.cells #[.bool false, .bool false, .nilFunc, .nilFunc] 87)).cell 0
 simp only [List.getElem?_toArray, List.getElem?_cons_zero] at c0
 clear hz b1 b2 b3 b4 hs1 hs2 hs3 hs4 hB
 go_enter Tryz.func89, Tryz.ntmps89
 go_wp2
 go_returns
 obtain ⟨a1, a2, a3, a4, hb, d1, d2, d3, d4⟩ := HALL.out
 refine ⟨by rw [d1, d2, d3], hb.alloc (by omega) _, a1.alloc _, ?_, ?_, ?_, by simp; omega⟩
 ·rw [← d1]; exact a2.alloc _
 ·rw [← d2]; exact a3.alloc _
 ·rw [← d3]; exact a4.alloc _
end Go.Proofs.YtdhgbkibbileiaaGreat
