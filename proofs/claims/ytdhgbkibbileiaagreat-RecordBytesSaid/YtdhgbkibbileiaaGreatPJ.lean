/-
  THE WALKS OF Right, find, Insert, put, FOR A Put INTO A HEAP.
-/
import Derived.Test.YtdhgbkibbileiaaGreatPH
import Derived.BigQuiet
import Derived.Lib.QuietBelow
namespace Go.Proofs.YtdhgbkibbileiaaGreat
open Go.RowKit

/-- an operation in memory -/
structure OV where
  k : Int
  s : Int
  t : Nat
  A : Option Addr
  m : Nat
  c : Nat
  d : List Nat
def OV.agg (o : OV) : Value := .agg #[.int .i64 o.k, .int .i64 o.s, .int .u32 (o.t : Int), .slice o.A o.m o.c]
structure OV.In (w : World) (T : Nat → Prop) (o : OV) : Prop where
  b : RB w T o.A o.m o.d
  k1 : -9223372036854775808 ≤ o.k
  k2 : o.k ≤ 9223372036854775807
  s1 : -9223372036854775808 ≤ o.s
  s2 : o.s ≤ 9223372036854775807
  t : o.t < 4294967296
  mc : o.m ≤ o.c
  ml : o.m ≤ 9223372036854775807
  nz : o.A = none → o.c = 0
def ocs (o : OV) : Array Value := #[.int .i64 o.k, .int .i64 o.s, .int .u32 (o.t : Int), .slice o.A o.m o.c]
set_option maxRecDepth 100000 in
theorem box_op (w : World) (p : OV) : ∃ W, w.alloc (.cells #[.int .i64 p.k, .int .i64 p.s, .int .u32 (p.t : Int), .slice p.A p.m p.c] 26) = W ∧ Below w.heap.size w W ∧ Blk W w.heap.size 26 (ocs p) ∧ W.heap.size = w.heap.size + 1 :=
  ⟨_, rfl, (Below.refl _ _).alloc (Nat.le_refl _) _, Blk.new w 26 _, by simp⟩
set_option maxRecDepth 100000 in
theorem ocs_cells {w : World} {g : Nat} {p : OV} (h : Blk w g 26 (ocs p)) : w.cell? ⟨g, 0, none⟩ = some (.int .i64 p.k) ∧ w.cell? ⟨g, 1, none⟩ = some (.int .i64 p.s) ∧ w.cell? ⟨g, 2, none⟩ = some (.int .u32 (p.t : Int)) ∧ w.cell? ⟨g, 3, none⟩ = some (.slice p.A p.m p.c) := by
  have h0 := h.cell 0
  have h1 := h.cell 1
  have h2 := h.cell 2
  have h3 := h.cell 3
  simp only [ocs, List.getElem?_toArray, List.getElem?_cons_zero, List.getElem?_cons_succ] at h0 h1 h2 h3
  exact ⟨h0, h1, h2, h3⟩
set_option maxRecDepth 100000 in
theorem OV.In.below {w w' : World} {T : Nat → Prop} {o : OV} (h : o.In w T) (hb : Below w.heap.size w w') : o.In w' T := ⟨h.b.keep (Fr.of_below hb No) fun _ _ hn => hn, h.k1, h.k2, h.s1, h.s2, h.t, h.mc, h.ml, h.nz⟩
set_option maxRecDepth 100000 in
theorem right_put (s : Int) (A : Option Addr) (m c : Nat) (w : World) (h1 : 1 ≤ m) (h2 : m ≤ 180) : Calls Tryz.prog 101 #[.int .i64 1, .agg #[.int .i64 1, .int .i64 s, .int .u32 0, .slice A m c]] w fun e w' => e = .returned (.bool true) ∧ Below w.heap.size w w' := by
  obtain ⟨W, hW, hBW, hbx, hsz⟩ := box_op w ⟨1, s, 0, A, m, c, []⟩
  obtain ⟨y0, y1, y2, y3⟩ := ocs_cells hbx
  simp only [Int.ofNat_zero] at hW y0 y1 y2 y3
  have HBW := Lib.hid hBW
  have ht : takes 1 = true := rfl
  have HT := Lib.hid (takesOps_any 1 W)
  rw [ht] at HT
  have HD := Lib.hid (mayData_any A m c W)
  rw [decide_eq_true h1, decide_eq_true h2] at HD
  clear hBW hbx hsz ht h1 h2
  go_enter Tryz.func101, Tryz.ntmps101
  go_wp2_with (first | (go_at_call 129; refine HT.out.mono ?_; rintro e w' ⟨rfl, rfl⟩) | (go_at_call 130; refine HD.out.mono ?_; rintro e w' ⟨rfl, rfl⟩))
  go_ret
  exact ⟨rfl, HBW.out⟩
set_option maxRecDepth 100000 in
theorem PO.tight {w : World} {S T : Nat → Prop} {p : PV} (h : PO w S T p) : PO w (fun b => S b ∧ b < w.heap.size) (fun b => T b ∧ b < w.heap.size) p :=
  ⟨h.o.mono (fun _ hlt hb => ⟨hb, hlt⟩) (fun _ hlt hb => ⟨hb, hlt⟩) fun k hk hT => h.o.2.2.2 k hk hT.1, h.nb, h.k1, h.k2, h.s, h.x⟩
set_option maxRecDepth 100000 in
theorem psz_snoc (l : List CE) (x : CE) : psz (l ++ [x]) = psz l + csz x := by
  unfold psz
  simp
  omega
end Go.Proofs.YtdhgbkibbileiaaGreat
