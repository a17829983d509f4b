/-
  THE FIELDS OF A RECORD: usedBy, isNoOp, number, list, fieldsOf.
-/
import Derived.Test.YtdhgbkibbileiaaGreatRB
import Derived.Handy
namespace Go.Proofs.YtdhgbkibbileiaaGreat
open Go.RowKit

/-- a record in memory -/
structure RV where
  k : Int
  s : Nat
  t : Nat
  a : Nat
  b : Nat
  pg : Nat
  rt : Nat
  o : OV
  iA : Option Addr
  im : Nat
  ic : Nat
  il : List IV
  lA : Option Addr
  lm : Nat
  lc : Nat
  ll : List LV
  dA : Option Addr
  dm : Nat
  dc : Nat
  dl : List DV
  nx : Nat
def RV.agg (r : RV) : Value := .agg #[.int .i64 r.k, .int .u64 (r.s : Int), .int .u32 (r.t : Int), .int .u64 (r.a : Int), .int .u64 (r.b : Int), .int .u32 (r.pg : Int), .int .u32 (r.rt : Int), .int .i64 r.o.k, .int .i64 r.o.s, .int .u32 (r.o.t : Int), .slice r.o.A r.o.m r.o.c, .slice r.iA r.im r.ic, .slice r.lA r.lm r.lc, .slice r.dA r.dm r.dc, .int .u32 (r.nx : Int)]
def rcs (r : RV) : Array Value := #[.int .i64 r.k, .int .u64 (r.s : Int), .int .u32 (r.t : Int), .int .u64 (r.a : Int), .int .u64 (r.b : Int), .int .u32 (r.pg : Int), .int .u32 (r.rt : Int), .int .i64 r.o.k, .int .i64 r.o.s, .int .u32 (r.o.t : Int), .slice r.o.A r.o.m r.o.c, .slice r.iA r.im r.ic, .slice r.lA r.lm r.lc, .slice r.dA r.dm r.dc, .int .u32 (r.nx : Int)]
structure RV.In (w : World) (T : Nat → Prop) (r : RV) : Prop where
  k1 : -9223372036854775808 ≤ r.k
  k2 : r.k ≤ 9223372036854775807
  s : r.s < 18446744073709551616
  t : r.t < 4294967296
  a : r.a < 18446744073709551616
  b : r.b < 18446744073709551616
  pg : r.pg < 4294967296
  rt : r.rt < 4294967296
  o : r.o.In w T
  i : IVR w T r.iA r.im r.il
  l : LVR w T r.lA r.lm r.ll
  d : DVR w T r.dA r.dm r.dl
  nx : r.nx < 4294967296
theorem OV.In.keep {w w' : World} {T U : Nat → Prop} {o : OV} (h : o.In w T) (hf : Fr w w' U) (hd : ∀ b, T b → ¬ U b) : o.In w' T := ⟨h.b.keep hf hd, h.k1, h.k2, h.s1, h.s2, h.t, h.mc, h.ml, h.nz⟩
theorem OV.In.mono {w : World} {T T' : Nat → Prop} {o : OV} (h : o.In w T) (hd : ∀ b, b < w.heap.size → T b → T' b) : o.In w T' := ⟨h.b.mono hd, h.k1, h.k2, h.s1, h.s2, h.t, h.mc, h.ml, h.nz⟩
theorem RV.In.keep {w w' : World} {T U : Nat → Prop} {r : RV} (h : r.In w T) (hf : Fr w w' U) (hd : ∀ b, T b → ¬ U b) : r.In w' T := ⟨h.k1, h.k2, h.s, h.t, h.a, h.b, h.pg, h.rt, h.o.keep hf hd, h.i.keep hf hd, h.l.keep hf hd, h.d.keep hf hd, h.nx⟩
theorem RV.In.mono {w : World} {T T' : Nat → Prop} {r : RV} (h : r.In w T) (hd : ∀ b, b < w.heap.size → T b → T' b) : r.In w T' := ⟨h.k1, h.k2, h.s, h.t, h.a, h.b, h.pg, h.rt, h.o.mono hd, h.i.mono hd, h.l.mono hd, h.d.mono hd, h.nx⟩
/-- which fields a kind uses -/
def uT (k : Int) : Bool := decide (k = 1 ∨ k = 2 ∨ k = 3 ∨ k = 5 ∨ k = 6 ∨ k = 7)
def uP (k : Int) : Bool := decide (k = 2 ∨ k = 3 ∨ k = 5 ∨ k = 6 ∨ k = 7)
def uU (k : Int) : Bool := decide (k = 3)
def uO (k : Int) : Bool := decide (k = 2 ∨ k = 3)
def uI (k : Int) : Bool := decide (k = 4)
def uC (k : Int) : Bool := decide (k = 8)
def usesV (k : Int) : Value := .agg #[.bool (uT k), .bool (uP k), .bool (uU k), .bool (uO k), .bool (uO k), .bool (uO k), .bool (uI k), .bool (uC k), .bool (uC k), .bool (uC k)]
set_option maxHeartbeats 4000000 in
set_option maxRecDepth 100000 in
theorem usedBy_any (w : World) (k : Int) : Calls Tryz.prog 69 #[.int .i64 k] w fun e w' => e = .returned (usesV k) ∧ Below w.heap.size w w' := by
  by_cases h1 : k = 1
  · subst h1
    go_enter Tryz.func69, Tryz.ntmps69
    go_wp2
    go_returns
    refine ⟨?_, ?_⟩
    · rfl
    · exact ((Below.refl w.heap.size w).alloc (Nat.le_refl _) _).alloc (by simp) _
  by_cases h2 : k = 2
  · subst h2
    go_enter Tryz.func69, Tryz.ntmps69
    go_wp2
    go_returns
    refine ⟨?_, ?_⟩
    · rfl
    · exact ((Below.refl w.heap.size w).alloc (Nat.le_refl _) _).alloc (by simp) _
  by_cases h3 : k = 3
  · subst h3
    go_enter Tryz.func69, Tryz.ntmps69
    go_wp2
    go_returns
    refine ⟨?_, ?_⟩
    · rfl
    · exact ((Below.refl w.heap.size w).alloc (Nat.le_refl _) _).alloc (by simp) _
  by_cases h4 : k = 4
  · subst h4
    go_enter Tryz.func69, Tryz.ntmps69
    go_wp2
    go_returns
    refine ⟨?_, ?_⟩
    · rfl
    · exact ((Below.refl w.heap.size w).alloc (Nat.le_refl _) _).alloc (by simp) _
  by_cases h5 : k = 5
  · subst h5
    go_enter Tryz.func69, Tryz.ntmps69
    go_wp2
    go_returns
    refine ⟨?_, ?_⟩
    · rfl
    · exact ((Below.refl w.heap.size w).alloc (Nat.le_refl _) _).alloc (by simp) _
  by_cases h6 : k = 6
  · subst h6
    go_enter Tryz.func69, Tryz.ntmps69
    go_wp2
    go_returns
    refine ⟨?_, ?_⟩
    · rfl
    · exact ((Below.refl w.heap.size w).alloc (Nat.le_refl _) _).alloc (by simp) _
  by_cases h7 : k = 7
  · subst h7
    go_enter Tryz.func69, Tryz.ntmps69
    go_wp2
    go_returns
    refine ⟨?_, ?_⟩
    · rfl
    · exact ((Below.refl w.heap.size w).alloc (Nat.le_refl _) _).alloc (by simp) _
  by_cases h8 : k = 8
  · subst h8
    go_enter Tryz.func69, Tryz.ntmps69
    go_wp2
    go_returns
    refine ⟨?_, ?_⟩
    · rfl
    · exact ((Below.refl w.heap.size w).alloc (Nat.le_refl _) _).alloc (by simp) _
  have e1 : (k == 1) = false := beq_false_of_ne h1
  have e2 : (k == 2) = false := beq_false_of_ne h2
  have e3 : (k == 3) = false := beq_false_of_ne h3
  have e4 : (k == 4) = false := beq_false_of_ne h4
  have e5 : (k == 5) = false := beq_false_of_ne h5
  have e6 : (k == 6) = false := beq_false_of_ne h6
  have e7 : (k == 7) = false := beq_false_of_ne h7
  have e8 : (k == 8) = false := beq_false_of_ne h8
  have hv : usesV k = .agg #[.bool false, .bool false, .bool false, .bool false, .bool false, .bool false, .bool false, .bool false, .bool false, .bool false] := by
    unfold usesV uT uP uU uO uI uC
    simp only [h1, h2, h3, h4, h5, h6, h7, h8, or_self, decide_false]
  clear h1 h2 h3 h4 h5 h6 h7 h8
  rw [hv]
  clear hv
  go_enter Tryz.func69, Tryz.ntmps69
  go_wp2
  go_returns
  refine ⟨?_, ?_⟩
  · rfl
  · exact ((Below.refl w.heap.size w).alloc (Nat.le_refl _) _).alloc (by simp) _

def noop (o : OV) : Bool := decide (o.k = 0) && (decide (o.s = 0) && (decide (o.t = 0) && decide (o.m = 0)))
set_option maxHeartbeats 2000000 in
set_option maxRecDepth 100000 in
theorem isNoOp_any (w : World) (o : OV) : Calls Tryz.prog 76 #[o.agg] w fun e w' => e = .returned (.bool (noop o)) ∧ Below w.heap.size w w' := by
  obtain ⟨W, hW, hBW, hbx, hsz⟩ := box_op w o
  obtain ⟨y0, y1, y2, y3⟩ := ocs_cells hbx
  have HBW := Lib.hid hBW
  obtain ⟨ok, os, ot, oA, om, oc, od⟩ := o
  simp only at hW y0 y1 y2 y3
  simp only [OV.agg]
  unfold noop
  clear hBW hbx hsz
  by_cases h0 : ok = 0
  · have e0 : (ok == 0) = true := by rw [beq_iff_eq]; exact h0
    by_cases h1 : os = 0
    · have e1 : (os == 0) = true := by rw [beq_iff_eq]; exact h1
      by_cases h2 : ot = 0
      · have e2 : ((ot : Int) == 0) = true := by rw [beq_iff_eq]; omega
        by_cases h3 : om = 0
        · have e3 : ((om : Int) == 0) = true := by rw [beq_iff_eq]; omega
          have hg : (decide (ok = 0) && (decide (os = 0) && (decide (ot = 0) && decide (om = 0)))) = true := by simp [h0, h1, h2, h3]
          simp only [hg]
          clear h0 h1 h2 h3 hg
          go_enter Tryz.func76, Tryz.ntmps76
          go_wp2
          go_ret
          exact ⟨rfl, HBW.out⟩
        · have e3 : ((om : Int) == 0) = false := beq_false_of_ne (by omega)
          have hg : (decide (ok = 0) && (decide (os = 0) && (decide (ot = 0) && decide (om = 0)))) = false := by simp [h3]
          simp only [hg]
          clear h0 h1 h2 h3 hg
          go_enter Tryz.func76, Tryz.ntmps76
          go_wp2
          go_ret
          exact ⟨rfl, HBW.out⟩
      · have e2 : ((ot : Int) == 0) = false := beq_false_of_ne (by omega)
        have hg : (decide (ok = 0) && (decide (os = 0) && (decide (ot = 0) && decide (om = 0)))) = false := by simp [h2]
        simp only [hg]
        clear h0 h1 h2 hg
        go_enter Tryz.func76, Tryz.ntmps76
        go_wp2
        go_ret
        exact ⟨rfl, HBW.out⟩
    · have e1 : (os == 0) = false := beq_false_of_ne h1
      have hg : (decide (ok = 0) && (decide (os = 0) && (decide (ot = 0) && decide (om = 0)))) = false := by simp [h1]
      simp only [hg]
      clear h0 h1 hg
      go_enter Tryz.func76, Tryz.ntmps76
      go_wp2
      go_ret
      exact ⟨rfl, HBW.out⟩
  · have e0 : (ok == 0) = false := beq_false_of_ne h0
    have hg : (decide (ok = 0) && (decide (os = 0) && (decide (ot = 0) && decide (om = 0)))) = false := by simp [h0]
    simp only [hg]
    clear h0 hg
    go_enter Tryz.func76, Tryz.ntmps76
    go_wp2
    go_ret
    exact ⟨rfl, HBW.out⟩
end Go.Proofs.YtdhgbkibbileiaaGreat
