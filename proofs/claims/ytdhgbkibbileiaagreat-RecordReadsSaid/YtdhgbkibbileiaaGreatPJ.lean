/-
PJ
-/
import Derived.Test.YtdhgbkibbileiaaGreatPH
import Derived.BigQuiet
import Derived.Lib.QuietBelow
set_option maxRecDepth 100000
namespace Go.Proofs.YtdhgbkibbileiaaGreat
open Go.RowKit
structure OV where
 k : Int
 s : Int
 t : Nat
 A : Option Addr
 m : Nat
 c : Nat
 d : List Nat
def OV.agg (o : OV) : Value := .agg #[.int .i64 o.k, .int .i64 o.s, .int .u32 (o.t : Int), .slice o.A o.m o.c]
structure OV.In (w : World) (T : Nat → Prop) (o : OV) : Prop where
 b : RB w T o.A o.m o.d
 k1 : -9223372036854775808 ≤ o.k
 k2 : o.k ≤ 9223372036854775807
 s1 : -9223372036854775808 ≤ o.s
 s2 : o.s ≤ 9223372036854775807
 t : o.t < 4294967296
 mc : o.m ≤ o.c
 ml : o.m ≤ 9223372036854775807
 nz : o.A = none → o.c = 0
def ocs (o : OV) : Array Value := #[.int .i64 o.k, .int .i64 o.s, .int .u32 (o.t : Int), .slice o.A o.m o.c]
theorem box_op (w : World) (p : OV) : ∃ W, w.alloc (.cells #[.int .i64 p.k, .int .i64 p.s, .int .u32 (p.t : Int), .slice p.A p.m p.c] 26) = W ∧ Below w.heap.size w W ∧ Blk W w.heap.size 26 (ocs p) ∧ W.heap.size = w.heap.size + 1 :=
 ⟨_, rfl, (Below.refl _ _).alloc (Nat.le_refl _) _, Blk.new w 26 _, by simp⟩
theorem ocs_cells {w : World} {g : Nat} {p : OV} (h : Blk w g 26 (ocs p)) : w.cell? ⟨g, 0, none⟩ = some (.int .i64 p.k) ∧ w.cell? ⟨g, 1, none⟩ = some (.int .i64 p.s) ∧ w.cell? ⟨g, 2, none⟩ = some (.int .u32 (p.t : Int)) ∧ w.cell? ⟨g, 3, none⟩ = some (.slice p.A p.m p.c) := by
 have h0 := h.cell 0
 have h1 := h.cell 1
 have h2 := h.cell 2
 have h3 := h.cell 3
 simp only [ocs, List.getElem?_toArray, List.getElem?_cons_zero, List.getElem?_cons_succ] at h0 h1 h2 h3
 exact ⟨h0, h1, h2, h3⟩
theorem OV.In.below {w w' : World} {T : Nat → Prop} {o : OV} (h : o.In w T) (hb : Below w.heap.size w w') : o.In w' T := ⟨h.b.keep (Fr.of_below hb No) fun _ _ hn => hn, h.k1, h.k2, h.s1, h.s2, h.t, h.mc, h.ml, h.nz⟩
theorem PO.tight {w : World} {S T : Nat → Prop} {p : PV} (h : PO w S T p) : PO w (fun b => S b ∧ b < w.heap.size) (fun b => T b ∧ b < w.heap.size) p :=
 ⟨h.o.mono (fun _ hlt hb => ⟨hb, hlt⟩) (fun _ hlt hb => ⟨hb, hlt⟩) fun k hk hT => h.o.2.2.2 k hk hT.1, h.nb, h.k1, h.k2, h.s, h.x⟩
end Go.Proofs.YtdhgbkibbileiaaGreat
