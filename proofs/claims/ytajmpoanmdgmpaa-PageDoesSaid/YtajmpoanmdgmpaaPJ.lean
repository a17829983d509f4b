/-
  THE WALKS OF Right, find, Insert, put, FOR A Put INTO A HEAP.
-/
import Derived.Test.YtajmpoanmdgmpaaPI
import Derived.Test.YtajmpoanmdgmpaaPH
import Derived.BigQuiet
import Derived.Lib.QuietBelow
namespace Go.Proofs.Ytajmpoanmdgmpaa
open Go.RowKit

/-- an operation in memory -/
structure OV where
  k : Int
  s : Int
  t : Nat
  A : Option Addr
  m : Nat
  c : Nat
  d : List Nat
def OV.agg (o : OV) : Value := .agg #[.int .i64 o.k, .int .i64 o.s, .int .u32 (o.t : Int), .slice o.A o.m o.c]
structure OV.In (w : World) (T : Nat → Prop) (o : OV) : Prop where
  b : RB w T o.A o.m o.d
  k1 : -9223372036854775808 ≤ o.k
  k2 : o.k ≤ 9223372036854775807
  s1 : -9223372036854775808 ≤ o.s
  s2 : o.s ≤ 9223372036854775807
  t : o.t < 4294967296
  mc : o.m ≤ o.c
  ml : o.m ≤ 9223372036854775807
  nz : o.A = none → o.c = 0
def ocs (o : OV) : Array Value := #[.int .i64 o.k, .int .i64 o.s, .int .u32 (o.t : Int), .slice o.A o.m o.c]
theorem box_op (w : World) (p : OV) : ∃ W, w.alloc (.cells #[.int .i64 p.k, .int .i64 p.s, .int .u32 (p.t : Int), .slice p.A p.m p.c] 46) = W ∧ Below w.heap.size w W ∧ Blk W w.heap.size 46 (ocs p) ∧ W.heap.size = w.heap.size + 1 :=
  ⟨_, rfl, (Below.refl _ _).alloc (Nat.le_refl _) _, Blk.new w 46 _, by simp⟩
theorem ocs_cells {w : World} {g : Nat} {p : OV} (h : Blk w g 46 (ocs p)) : w.cell? ⟨g, 0, none⟩ = some (.int .i64 p.k) ∧ w.cell? ⟨g, 1, none⟩ = some (.int .i64 p.s) ∧ w.cell? ⟨g, 2, none⟩ = some (.int .u32 (p.t : Int)) ∧ w.cell? ⟨g, 3, none⟩ = some (.slice p.A p.m p.c) := by
  have h0 := h.cell 0
  have h1 := h.cell 1
  have h2 := h.cell 2
  have h3 := h.cell 3
  simp only [ocs, List.getElem?_toArray, List.getElem?_cons_zero, List.getElem?_cons_succ] at h0 h1 h2 h3
  exact ⟨h0, h1, h2, h3⟩
theorem OV.In.below {w w' : World} {T : Nat → Prop} {o : OV} (h : o.In w T) (hb : Below w.heap.size w w') : o.In w' T := ⟨h.b.keep (Fr.of_below hb No) fun _ _ hn => hn, h.k1, h.k2, h.s1, h.s2, h.t, h.mc, h.ml, h.nz⟩
set_option maxRecDepth 100000 in
theorem right_put (s : Int) (A : Option Addr) (m c : Nat) (w : World) (h1 : 1 ≤ m) (h2 : m ≤ 180) : Calls Try.prog 35 #[.int .i64 1, .agg #[.int .i64 1, .int .i64 s, .int .u32 0, .slice A m c]] w fun e w' => e = .returned (.bool true) ∧ Below w.heap.size w w' := by
  obtain ⟨W, hW, hBW, hbx, hsz⟩ := box_op w ⟨1, s, 0, A, m, c, []⟩
  obtain ⟨y0, y1, y2, y3⟩ := ocs_cells hbx
  simp only [Int.ofNat_zero] at hW y0 y1 y2 y3
  have HBW := Lib.hid hBW
  have ht : takes 1 = true := rfl
  have HT := Lib.hid (takesOps_any 1 W)
  rw [ht] at HT
  have HD := Lib.hid (mayData_any A m c W)
  rw [decide_eq_true h1, decide_eq_true h2] at HD
  clear hBW hbx hsz ht h1 h2
  go_enter Try.func35, Try.ntmps35
  go_wp2_with (first | (go_at_call 41; refine HT.out.mono ?_; rintro e w' ⟨rfl, rfl⟩) | (go_at_call 65; refine HD.out.mono ?_; rintro e w' ⟨rfl, rfl⟩))
  go_ret
  exact ⟨rfl, HBW.out⟩
set_option maxHeartbeats 1000000 in
set_option maxRecDepth 100000 in
theorem find_heap (p : PV) (op : OV) (w : World) (h : p.In w All All) (hk : p.k = 1) (hn : p.n ≤ 300) (s : Nat) (hs : op.s = (s : Int)) (b : Bool) (hb : (p.n ≤ s ∧ b = false) ∨ (∃ x : CE, p.es[s]? = some x ∧ x.u = b)) :
    Calls Try.prog 83 #[p.agg, op.agg] w fun e w' => e = .returned (.tuple #[.int .i64 (s : Int), .bool b]) ∧ Below w.heap.size w w' := by
  obtain ⟨W1, hW1, hBW1, hbx1, hsz1⟩ := box_page w p
  obtain ⟨W, hW, hBW2, hbx2, hsz2⟩ := box_op W1 op
  have hbx := hbx1.below hBW2 (by omega)
  have hBW : Below w.heap.size w W := hBW1.trans (hBW2.mono hBW1.size)
  obtain ⟨y0, y1, y2, y3⟩ := pcs_cells hbx
  obtain ⟨t0, t1, t2, t3⟩ := ocs_cells hbx2
  have HP := Lib.hid (h.below hBW)
  have HBW := Lib.hid hBW
  have hlen := h.len
  obtain ⟨pk, ps, px, A, n, c, l⟩ := p
  obtain ⟨ok, os, ot, oA, om, oc, od⟩ := op
  simp only at hW1 hW y0 y1 y2 y3 t0 t1 t2 t3 hs hn hk hb hlen
  subst hk hs
  have d0 : decide ((s : Int) ≥ 0) = true := decide_eq_true (by omega)
  have HBB := Lib.hid hb
  have hcase : n ≤ s ∨ s < n := by omega
  simp only [PV.agg, OV.agg]
  clear h hBW1 hBW2 hbx1 hbx2 hsz1 hsz2 hbx hBW hb
  rcases hcase with hge | hlt
  · have d1 : decide ((s : Int) < (n : Int)) = false := decide_eq_false (by omega)
    have d2 : decide (s < n) = false := decide_eq_false (by omega)
    have hbf : b = false := by
      rcases HBB.out with hb | ⟨x, hx, _⟩
      · exact hb.2
      · rw [List.getElem?_eq_none (by omega)] at hx; cases hx
    subst hbf
    clear hge
    go_enter Try.func83, Try.ntmps83
    go_upto_region 2 with fail
    have z0 := fun d os => cell_regrown t1 d os
    have z3 := fun d os => cell_regrown y3 d os
    refine wp_region_quiet_below (by kernel_rfl) (by kernel_rfl) ?_
    repeat (go_big_quiet_step (fail))
    refine wpQuiet_nil ?_
    rintro W3 ⟨pp, hpp⟩
    have HB3 := Lib.hid (show Below w.heap.size w W3 by rw [hpp]; exact HBW.out.trans ((below_regrown _ _ _).mono HBW.out.size))
    clear hpp z0 z3
    go_wp2_with fail
    go_ret2
    exact ⟨rfl, HB3.out⟩
  · have d1 : decide ((s : Int) < (n : Int)) = true := decide_eq_true (by omega)
    have d2 : decide (s < n) = true := decide_eq_true (by omega)
    have hws : IntKind.i64.wrap (s : Int) = (s : Int) := IntWalk.i64_in _ (by omega)
    obtain ⟨g, o, x, rfl, hg, _, hx, hxi, b0, b1, b2⟩ := HP.out.r.at_ hlt
    have hbu : x.u = b := by
      rcases HBB.out with hb | ⟨y, hy, hyb⟩
      · omega
      · have hy2 : (l.map CV.e)[s]? = some y := hy
        rw [es_at (show l[s]? = some x from hx)] at hy2
        injection hy2 with hy2
        rw [← hyb, ← hy2]
        rfl
    rw [hbu] at b0
    clear hx hxi hbu b1 b2
    go_enter Try.func83, Try.ntmps83
    go_upto_region 2 with fail
    have z0 := fun d os => cell_regrown t1 d os
    have z3 := fun d os => cell_regrown y3 d os
    have z4 := fun d os => cell_regrown b0 d os
    refine wp_region_quiet_below (by kernel_rfl) (by kernel_rfl) ?_
    repeat (go_big_quiet_step (fail))
    refine wpQuiet_nil ?_
    rintro W3 ⟨pp, hpp⟩
    have HB3 := Lib.hid (show Below w.heap.size w W3 by rw [hpp]; exact HBW.out.trans ((below_regrown _ _ _).mono HBW.out.size))
    clear hpp z0 z3 z4
    go_wp2_with fail
    go_ret2
    exact ⟨rfl, HB3.out⟩
set_option maxRecDepth 100000 in
theorem insert_end (w : World) (S T : Nat → Prop) (A : Option Addr) (n c : Nat) (l : List CV) (ho : OwC w S T (.slice A n c) n l) (hn : n ≤ 1000) (hnc : n ≤ c) (q : Nat) (x : CV) (hx : CR w All T (some ⟨q, 0, none⟩) 1 [x]) :
    Calls Try.prog 100 #[.slice A n c, .int .i64 (n : Int), .slice (some ⟨q, 0, none⟩) 1 1] w fun e w' => ∃ v, e = .returned v ∧ OwC w' (fun b => S b ∨ w.heap.size ≤ b) (fun b => T b ∧ b < w.heap.size) v (n + 1) (l ++ [x]) ∧ w.grownBy w' (Value.ownBlock (.slice A n c)) := by
  have HO := Lib.hid ho
  have HX := Lib.hid hx
  have h1 : ((n : Int) == (n : Int)) = true := by rw [beq_iff_eq]
  have hr : IntKind.i64.wrap (n : Int) = (n : Int) := IntWalk.i64_in _ (by omega)
  have hsub : IntKind.i64.wrap ((n : Int) - (n : Int)) = 0 := by rw [Int.sub_self]; exact IntWalk.i64_in _ (by omega)
  clear ho hx
  cases A with
  | none =>
    have h0 : n = 0 := by
      rcases HO.out.1.2 with ⟨e, h0⟩ | ⟨g, cap, cur, e, _⟩
      · exact h0
      · injection e with e; cases e
    subst h0
    go_enter Try.func100, Try.ntmps100
    go_wp2_with (at_builtin; go_must (refine wpList_appC rfl (.tmp 23) (.tmp 24) rfl _ _ l rfl HO.out (some ⟨q, 0, none⟩) 1 1 [x] rfl HX.out (by omega) ?_); intro v1 w2 hown hgrow; have HS := Lib.hid hown; have HG := Lib.hid hgrow; clear hown hgrow)
    go_ret
    exact ⟨_, rfl, HS.out, HG.out⟩
  | some ad =>
    go_enter Try.func100, Try.ntmps100
    go_wp2_with (at_builtin; go_must (refine wpList_appC rfl (.tmp 23) (.tmp 24) rfl _ _ l rfl HO.out (some ⟨q, 0, none⟩) 1 1 [x] rfl HX.out (by omega) ?_); intro v1 w2 hown hgrow; have HS := Lib.hid hown; have HG := Lib.hid hgrow; clear hown hgrow)
    all_goals
      go_ret
      exact ⟨_, rfl, HS.out, HG.out⟩
theorem PO.tight {w : World} {S T : Nat → Prop} {p : PV} (h : PO w S T p) : PO w (fun b => S b ∧ b < w.heap.size) (fun b => T b ∧ b < w.heap.size) p :=
  ⟨h.o.mono (fun _ hlt hb => ⟨hb, hlt⟩) (fun _ hlt hb => ⟨hb, hlt⟩) fun k hk hT => h.o.2.2.2 k hk hT.1, h.nb, h.k1, h.k2, h.s, h.x⟩
theorem psz_snoc (l : List CE) (x : CE) : psz (l ++ [x]) = psz l + csz x := by
  unfold psz
  simp
  omega
set_option maxHeartbeats 2000000 in
set_option maxRecDepth 100000 in
theorem put_end (w : World) (S T : Nat → Prop) (g : Nat) (p : PV) (hb : Blk w g 26 (pcs p)) (hg : ¬ S g ∧ ¬ T g) (ho : PO w S T p) (hk : p.k = 1) (hn : p.n < 60) (hf : Few p) (A : Option Addr) (m c : Nat) (d : List Nat) (hd : RB w All A m d) (hm : m ≤ 180) (hz : psz p.es + 6 + m ≤ 512) :
    Calls Try.prog 84 #[.pointer (some ⟨g, 0, none⟩), .int .i64 (p.n : Int), .bool false, .slice A m c] w fun e w' => ∃ p' S' T', e = .returned (.int .i64 0) ∧ Blk w' g 26 (pcs p') ∧ PO w' S' T' p' ∧ p'.es = p.es ++ [⟨true, 0, d⟩] ∧ p'.k = p.k ∧ p'.s = p.s ∧ p'.x = p.x ∧ (∀ b, S' b → S b ∨ w.heap.size ≤ b) ∧ (∀ b, T' b → T b ∨ w.heap.size ≤ b) ∧ Fr w w' (fun b => b = g ∨ S b) := by
  obtain ⟨y0, y1, y2, y3⟩ := pcs_cells hb
  have HO := Lib.hid ho.tight
  have HBK := Lib.hid hb
  have HF := Lib.hid hf
  have HG := Lib.hid hg
  have HZ := Lib.hid hz
  have HCL := Lib.hid (clone_any w All A m c d hd (by omega))
  have hdl : d.length = m := hd.len
  have hnc : p.n ≤ p.c := ho.In.nc
  have hpl : p.l.length = p.n := ho.o.len
  have hgl := hb.lt
  obtain ⟨pk, ps, px, pA, n, pc, l⟩ := p
  simp only at y0 y1 y2 y3 hk hn hnc hpl
  subst hk
  clear ho hb hf hg hz hd
  have d1 : decide ((n : Int) < 0) = false := decide_eq_false (by omega)
  have d2 : decide ((n : Int) > (n : Int)) = false := decide_eq_false (by omega)
  have d3 : decide ((n : Int) < (n : Int)) = false := decide_eq_false (by omega)
  go_enter Try.func84, Try.ntmps84
  go_wp2_with fail
  with_reducible refine HCL.out.mono ?_
  rintro e w1 ⟨v1, rfl, hnew, hb1⟩
  obtain ⟨A2, c2, rfl, hmc2, hnz2, hrb2⟩ := Ow.reads hnew
  rw [hdl] at hrb2 hmc2
  rw [hdl]
  have hbk1 := HBK.out.below hb1 hgl
  obtain ⟨y0, y1, y2, y3⟩ := pcs_cells (hbk1.alloc (.cells #[.bool true, .int .u32 0, .slice A2 m c2] 58))
  have hdn := Blk.new w1 58 #[.bool true, .int .u32 0, .slice A2 m c2]
  have hDB : Below w1.heap.size w1 (w1.alloc (.cells #[.bool true, .int .u32 0, .slice A2 m c2] 58)) := (Below.refl _ _).alloc (Nat.le_refl _) _
  obtain ⟨D, hD⟩ : ∃ D, w1.alloc (.cells #[.bool true, .int .u32 0, .slice A2 m c2] 58) = D := ⟨_, rfl⟩
  rw [hD] at y0 y1 y2 y3 hdn hDB
  have x0 := hdn.cell 0
  have x1 := hdn.cell 1
  have x2 := hdn.cell 2
  simp only [List.getElem?_toArray, List.getElem?_cons_zero, List.getElem?_cons_succ] at y0 y1 y2 y3 x0 x1 x2
  have HBD := Lib.hid ((hbk1.below hDB hbk1.lt))
  have HBA := Lib.hid (hb1.trans (hDB.mono hb1.size))
  have HRB := Lib.hid (hrb2.keep (Fr.of_below hDB No) fun _ _ hn => hn)
  clear hnew hbk1 hrb2 hdn
  have hO2 : OwC D.drew (fun b => S b ∧ b < w.heap.size) (fun b => (T b ∧ b < w.heap.size) ∨ (w.heap.size ≤ b ∧ b < D.heap.size + 1)) (.slice pA n pc) n l :=
    (HO.out.o.mono (T' := fun b => (T b ∧ b < w.heap.size) ∨ (w.heap.size ≤ b ∧ b < D.heap.size + 1)) (fun b _ hb => hb) (fun b _ hb => Or.inl hb) (fun k hk hT => by
      rcases hT with hT | hT
      · exact HO.out.o.2.2.2 k hk hT
      · have := HO.out.o.2.2.1 k hk; omega)).fr ((Fr.of_below HBA.out No).drew)
  have hxI : CV.In D.drew (fun b => (T b ∧ b < w.heap.size) ∨ (w.heap.size ≤ b ∧ b < D.heap.size + 1)) ⟨true, 0, A2, m, c2, d⟩ :=
    ⟨(HRB.out.mono (T := fun b => (T b ∧ b < w.heap.size) ∨ (w.heap.size ≤ b ∧ b < D.heap.size + 1)) fun b hlt hb => Or.inr ⟨hb, by omega⟩).drew, by show (0 : Nat) < _; omega, hmc2, by show m ≤ _; omega, hnz2⟩
  have hone := CR.one D.drew All (fun b => (T b ∧ b < w.heap.size) ∨ (w.heap.size ≤ b ∧ b < D.heap.size + 1)) ⟨true, 0, A2, m, c2, d⟩ D.heap.size rfl trivial hxI
  have hO3 := hO2.alloc (.cells #[.bool true, .int .u32 0, .slice A2 m c2] 58)
  have hbd2 : Blk (D.drew.alloc (.cells #[.bool true, .int .u32 0, .slice A2 m c2] 58)) g 26 (pcs ⟨1, ps, px, pA, n, pc, l⟩) := HBD.out.drew.alloc _
  have hfd2 : Fr w (D.drew.alloc (.cells #[.bool true, .int .u32 0, .slice A2 m c2] 58)) S := ((Fr.of_below HBA.out S).drew).alloc _
  have hsd2 : (D.drew.alloc (.cells #[.bool true, .int .u32 0, .slice A2 m c2] 58)).heap.size = D.heap.size + 1 := by simp
  obtain ⟨D2, hD2⟩ : ∃ D2, D.drew.alloc (.cells #[.bool true, .int .u32 0, .slice A2 m c2] 58) = D2 := ⟨_, rfl⟩
  have hone2 : CR D2 All (fun b => (T b ∧ b < w.heap.size) ∨ (w.heap.size ≤ b ∧ b < D2.heap.size)) (some ⟨D.heap.size, 0, none⟩) 1 [⟨true, 0, A2, m, c2, d⟩] := by rw [← hD2, hsd2]; exact hone
  rw [hD2] at hO3 hbd2 hfd2 hsd2
  rw [← hsd2] at hO3
  have hDw : w.heap.size ≤ D.heap.size := HBA.out.size
  have hin := insert_end D2 (fun b => S b ∧ b < w.heap.size) (fun b => (T b ∧ b < w.heap.size) ∨ (w.heap.size ≤ b ∧ b < D2.heap.size)) pA n pc l hO3 (by omega) hnc D.heap.size ⟨true, 0, A2, m, c2, d⟩ hone2
  have HIN := Lib.hid hin
  have HB2 := Lib.hid hbd2
  have HF2 := Lib.hid hfd2
  have HDZ := Lib.hid (show w.heap.size ≤ D2.heap.size by omega)
  have y3d : D.drew.cell? ⟨g, 3, none⟩ = some (.slice pA n pc) := y3
  have x0d : D.drew.cell? ⟨w1.heap.size, 0, none⟩ = some (.bool true) := x0
  have x1d : D.drew.cell? ⟨w1.heap.size, 1, none⟩ = some (.int .u32 0) := x1
  have x2d : D.drew.cell? ⟨w1.heap.size, 2, none⟩ = some (.slice A2 m c2) := x2
  have y3e := (pcs_cells hbd2).2.2.2
  simp only at y3e
  have hszd : D.drew.heap.size = D.heap.size := rfl
  clear hO2 hxI hone hO3 hbd2 hfd2 hone2 hin hnz2
  go_upto_region 8 with fail
  refine wp_region_any (by kernel_rfl) ?_
  try (change wpAny _ _ _ _ _ _ _ (World.drew _))
  refine wpAny_take (i := 0) (v := ?_) rfl (by kernel_rfl) (by kernel_rfl) (by kernel_rfl) (fun _ _ _ h => h) (Or.inl ⟨by rfl, ?_⟩) ?_
  rotate_left
  · (intro wq; go_simp; try with_reducible rfl)
  refine wpAny_take (i := 1) (v := ?_) rfl (by kernel_rfl) (by kernel_rfl) (by kernel_rfl) (fun _ _ _ h => h) (Or.inl ⟨by rfl, ?_⟩) ?_
  rotate_left
  · (intro wq; go_simp; try with_reducible rfl)
  refine wpAny_take (i := 2) (v := ?_) rfl (by kernel_rfl) (by kernel_rfl) (by kernel_rfl) (fun _ _ _ h => h) (Or.inl ⟨by rfl, ?_⟩) ?_
  rotate_left
  · (intro wq; go_simp; try with_reducible rfl)
  refine wpAny_take (i := 3) (v := ?_) rfl (by kernel_rfl) (by kernel_rfl) (by kernel_rfl) (fun _ _ _ h => h) (Or.inl ⟨by rfl, ?_⟩) ?_
  rotate_left
  · (intro wq; go_simp; try with_reducible rfl)
  refine wpAny_take (i := 5) (v := ?_) rfl (by kernel_rfl) (by kernel_rfl) (by kernel_rfl) (fun _ _ _ h => h) (Or.inl ⟨by rfl, ?_⟩) ?_
  rotate_left
  · (intro wq; go_simp; try with_reducible rfl)
  refine wpAny_ready (rs := [4, 6]) (by kernel_rfl) (by simp) ?_
  refine AllReady.cons rfl (fun K hK => ?_) (AllReady.cons rfl (fun K hK => ?_) AllReady.nil)
  · go_simp
    refine hK _ _ ?_
    clear hK K
    refine wpAny_ready (rs := [6]) (by kernel_rfl) (by simp) ?_
    refine AllReady.cons rfl (fun K hK => ?_) AllReady.nil
    go_simp
    refine hK _ _ ?_
    clear hK K
    refine wpAny_ready (rs := [7]) (by kernel_rfl) (by simp) ?_
    refine AllReady.cons rfl (fun K hK => ?_) AllReady.nil
    go_simp
    refine hK _ _ ?_
    clear hK K
    refine wpAny_ready (rs := [8]) (by kernel_rfl) (by simp) ?_
    refine AllReady.cons rfl (fun K hK => ?_) AllReady.nil
    go_simp
    refine HIN.out.mono ?_
    rintro e w3 ⟨v3, rfl, hown, hgrow⟩
    obtain ⟨A3, c3, rfl, hnc3, _, hnz3, hcr3⟩ := hown.reads (by omega)
    have hrow : ∀ q, Value.ownBlock (.slice pA n pc) = some q → S q ∧ q < w.heap.size := fun q hq => HO.out.o.2.2.1 q hq
    have hb3 := HB2.out.grown hgrow (fun e => HG.out.1 (hrow g e.symm).1)
    have hf3 : Fr w w3 S := (HF2.out).grown hgrow fun q hq => Or.inl (hrow q hq).1
    have hfz := hb3.frozen 3
    have n3 := hb3.cell 3
    simp only [pcs, List.getElem?_toArray, List.getElem?_cons_zero, List.getElem?_cons_succ] at n3
    have HO3 := Lib.hid hown
    have HB3 := Lib.hid hb3
    have HF3 := Lib.hid hf3
    clear hown hgrow hcr3 hnz3 hnc3 hb3 hf3
    refine hK _ _ ?_
    clear hK K
    refine wpAny_take (i := 9) (v := ?_) rfl (by kernel_rfl) (by kernel_rfl) (by kernel_rfl) (fun _ _ _ h => h) (Or.inl ⟨by rfl, ?_⟩) ?_
    rotate_left
    · (intro wq; go_simp; try with_reducible rfl)
    refine wpAny_take (i := 10) (v := ?_) rfl (by kernel_rfl) (by kernel_rfl) (by kernel_rfl) (fun _ _ _ h => h) (Or.inl ⟨by rfl, ?_⟩) ?_
    rotate_left
    · (intro wq; go_simp; try with_reducible rfl)
    refine wpAny_ready (rs := [11]) (by kernel_rfl) (by simp) ?_
    refine AllReady.cons rfl (fun K hK => ?_) AllReady.nil
    go_simp
    refine hK _ _ ?_
    clear hK K
    refine wpAny_done (by kernel_rfl) ?_ _
    obtain ⟨w4, hw4⟩ : ∃ w4, w3.setCell ⟨g, 3, none⟩ (.slice A3 (n + 1) c3) = w4 := ⟨_, rfl⟩
    have hb4 : Blk w4 g 26 (pcs ⟨1, ps, px, A3, n + 1, c3, l ++ [⟨true, 0, A2, m, c2, d⟩]⟩) := by rw [← hw4]; exact HB3.out.set_ 3 _
    have hf34 : Fr w3 w4 (fun b => b = g) := by rw [← hw4]; exact (Fr.refl w3 (fun b => b = g)).setCell (p := ⟨g, 3, none⟩) (Or.inl rfl) _
    have hpo : PO w4 (fun b => (S b ∧ b < w.heap.size) ∨ D2.heap.size ≤ b) (fun b => ((T b ∧ b < w.heap.size) ∨ (w.heap.size ≤ b ∧ b < D2.heap.size)) ∧ b < D2.heap.size) ⟨1, ps, px, A3, n + 1, c3, l ++ [⟨true, 0, A2, m, c2, d⟩]⟩ :=
      ⟨HO3.out.keep hf34 (fun b hb e => by
        subst e
        rcases hb with hb | hb
        · exact HG.out.1 hb.1
        · have := HDZ.out; omega) (fun b hb e => by
        subst e
        rcases hb.1 with hb | hb
        · exact HG.out.2 hb.1
        · omega), by show n + 1 ≤ _; omega, by show (-9223372036854775808 : Int) ≤ 1; omega, by show (1 : Int) ≤ 9223372036854775807; omega, HO.out.s, HO.out.x⟩
    have hes : (⟨1, ps, px, A3, n + 1, c3, l ++ [⟨true, 0, A2, m, c2, d⟩]⟩ : PV).es = (⟨1, ps, px, pA, n, pc, l⟩ : PV).es ++ [⟨true, 0, d⟩] := by
      show List.map CV.e (l ++ _) = List.map CV.e l ++ _
      rw [List.map_append]; rfl
    have hps : psz (⟨1, ps, px, A3, n + 1, c3, l ++ [⟨true, 0, A2, m, c2, d⟩]⟩ : PV).es = psz (⟨1, ps, px, pA, n, pc, l⟩ : PV).es + (6 + m) := by
      rw [hes, psz_snoc]
      show _ + (6 + d.length) = _
      rw [hdl]
    have hsize := size_any ⟨1, ps, px, A3, n + 1, c3, l ++ [⟨true, 0, A2, m, c2, d⟩]⟩ w4 hpo.In.all (fun x hx => by
      rcases List.mem_append.1 hx with hx | hx
      · exact Nat.le_trans (HF.out.m x hx) (by omega)
      · rw [List.mem_singleton] at hx; subst hx; show m ≤ _; omega) (by show n + 1 ≤ _; omega)
    rw [hps] at hsize
    obtain ⟨z, hz⟩ : ∃ z, z = psz (⟨1, ps, px, pA, n, pc, l⟩ : PV).es + (6 + m) := ⟨_, rfl⟩
    rw [← hz] at hsize
    have hz5 : z ≤ 512 := by have := HZ.out; omega
    have HSI := Lib.hid hsize
    simp only [PV.agg] at HSI
    have HPO := Lib.hid hpo
    have HB4 := Lib.hid hb4
    have HES := Lib.hid hes
    have HF4 := Lib.hid (show Fr w w4 (fun b => b = g ∨ S b) from (HF3.out.mono (T := fun b => b = g ∨ S b) fun b _ hb => Or.inr hb).trans hf34 fun b hb => Or.inl (Or.inl hb))
    obtain ⟨u0, u1, u2, u3⟩ := pcs_cells hb4
    simp only at u0 u1 u2 u3
    have l1 : decide (((n + 1 : Nat) : Int) > 60) = false := decide_eq_false (by omega)
    have l2 : decide ((z : Int) > 512) = false := decide_eq_false (by omega)
    clear hz hsize hpo hb4 hes hps hf34 y0 y1 y2 y3 x0 x1 x2
    go_wp2_with fail
    refine HSI.out.mono ?_
    rintro e w5 ⟨rfl, hb5⟩
    have HB5 := Lib.hid hb5
    clear hb5
    go_wp2_with fail
    go_ret
    refine ⟨⟨1, ps, px, A3, n + 1, c3, l ++ [⟨true, 0, A2, m, c2, d⟩]⟩, _, _, rfl, HB4.out.below HB5.out HB4.out.lt, HPO.out.keep (Fr.of_below HB5.out No) (fun _ _ hn => hn) (fun _ _ hn => hn), HES.out, rfl, rfl, rfl, fun b hb => ?_, fun b hb => ?_, HF4.out.trans (Fr.of_below HB5.out No) fun _ hn => hn.elim⟩
    · rcases hb with hb | hb
      · exact Or.inl hb.1
      · exact Or.inr (by have := HDZ.out; omega)
    · rcases hb.1 with hb | hb
      · exact Or.inl hb.1
      · exact Or.inr hb.1
  · go_simp
    refine hK _ _ ?_
    clear hK K
    refine wpAny_ready (rs := [4, 7]) (by kernel_rfl) (by simp) ?_
    refine AllReady.cons rfl (fun K hK => ?_) (AllReady.cons rfl (fun K hK => ?_) AllReady.nil)
    · go_simp
      refine hK _ _ ?_
      clear hK K
      refine wpAny_ready (rs := [7]) (by kernel_rfl) (by simp) ?_
      refine AllReady.cons rfl (fun K hK => ?_) AllReady.nil
      go_simp
      refine hK _ _ ?_
      clear hK K
      refine wpAny_ready (rs := [8]) (by kernel_rfl) (by simp) ?_
      refine AllReady.cons rfl (fun K hK => ?_) AllReady.nil
      go_simp
      refine HIN.out.mono ?_
      rintro e w3 ⟨v3, rfl, hown, hgrow⟩
      obtain ⟨A3, c3, rfl, hnc3, _, hnz3, hcr3⟩ := hown.reads (by omega)
      have hrow : ∀ q, Value.ownBlock (.slice pA n pc) = some q → S q ∧ q < w.heap.size := fun q hq => HO.out.o.2.2.1 q hq
      have hb3 := HB2.out.grown hgrow (fun e => HG.out.1 (hrow g e.symm).1)
      have hf3 : Fr w w3 S := (HF2.out).grown hgrow fun q hq => Or.inl (hrow q hq).1
      have hfz := hb3.frozen 3
      have n3 := hb3.cell 3
      simp only [pcs, List.getElem?_toArray, List.getElem?_cons_zero, List.getElem?_cons_succ] at n3
      have HO3 := Lib.hid hown
      have HB3 := Lib.hid hb3
      have HF3 := Lib.hid hf3
      clear hown hgrow hcr3 hnz3 hnc3 hb3 hf3
      refine hK _ _ ?_
      clear hK K
      refine wpAny_take (i := 9) (v := ?_) rfl (by kernel_rfl) (by kernel_rfl) (by kernel_rfl) (fun _ _ _ h => h) (Or.inl ⟨by rfl, ?_⟩) ?_
      rotate_left
      · (intro wq; go_simp; try with_reducible rfl)
      refine wpAny_take (i := 10) (v := ?_) rfl (by kernel_rfl) (by kernel_rfl) (by kernel_rfl) (fun _ _ _ h => h) (Or.inl ⟨by rfl, ?_⟩) ?_
      rotate_left
      · (intro wq; go_simp; try with_reducible rfl)
      refine wpAny_ready (rs := [11]) (by kernel_rfl) (by simp) ?_
      refine AllReady.cons rfl (fun K hK => ?_) AllReady.nil
      go_simp
      refine hK _ _ ?_
      clear hK K
      refine wpAny_done (by kernel_rfl) ?_ _
      obtain ⟨w4, hw4⟩ : ∃ w4, w3.setCell ⟨g, 3, none⟩ (.slice A3 (n + 1) c3) = w4 := ⟨_, rfl⟩
      have hb4 : Blk w4 g 26 (pcs ⟨1, ps, px, A3, n + 1, c3, l ++ [⟨true, 0, A2, m, c2, d⟩]⟩) := by rw [← hw4]; exact HB3.out.set_ 3 _
      have hf34 : Fr w3 w4 (fun b => b = g) := by rw [← hw4]; exact (Fr.refl w3 (fun b => b = g)).setCell (p := ⟨g, 3, none⟩) (Or.inl rfl) _
      have hpo : PO w4 (fun b => (S b ∧ b < w.heap.size) ∨ D2.heap.size ≤ b) (fun b => ((T b ∧ b < w.heap.size) ∨ (w.heap.size ≤ b ∧ b < D2.heap.size)) ∧ b < D2.heap.size) ⟨1, ps, px, A3, n + 1, c3, l ++ [⟨true, 0, A2, m, c2, d⟩]⟩ :=
        ⟨HO3.out.keep hf34 (fun b hb e => by
          subst e
          rcases hb with hb | hb
          · exact HG.out.1 hb.1
          · have := HDZ.out; omega) (fun b hb e => by
          subst e
          rcases hb.1 with hb | hb
          · exact HG.out.2 hb.1
          · omega), by show n + 1 ≤ _; omega, by show (-9223372036854775808 : Int) ≤ 1; omega, by show (1 : Int) ≤ 9223372036854775807; omega, HO.out.s, HO.out.x⟩
      have hes : (⟨1, ps, px, A3, n + 1, c3, l ++ [⟨true, 0, A2, m, c2, d⟩]⟩ : PV).es = (⟨1, ps, px, pA, n, pc, l⟩ : PV).es ++ [⟨true, 0, d⟩] := by
        show List.map CV.e (l ++ _) = List.map CV.e l ++ _
        rw [List.map_append]; rfl
      have hps : psz (⟨1, ps, px, A3, n + 1, c3, l ++ [⟨true, 0, A2, m, c2, d⟩]⟩ : PV).es = psz (⟨1, ps, px, pA, n, pc, l⟩ : PV).es + (6 + m) := by
        rw [hes, psz_snoc]
        show _ + (6 + d.length) = _
        rw [hdl]
      have hsize := size_any ⟨1, ps, px, A3, n + 1, c3, l ++ [⟨true, 0, A2, m, c2, d⟩]⟩ w4 hpo.In.all (fun x hx => by
        rcases List.mem_append.1 hx with hx | hx
        · exact Nat.le_trans (HF.out.m x hx) (by omega)
        · rw [List.mem_singleton] at hx; subst hx; show m ≤ _; omega) (by show n + 1 ≤ _; omega)
      rw [hps] at hsize
      obtain ⟨z, hz⟩ : ∃ z, z = psz (⟨1, ps, px, pA, n, pc, l⟩ : PV).es + (6 + m) := ⟨_, rfl⟩
      rw [← hz] at hsize
      have hz5 : z ≤ 512 := by have := HZ.out; omega
      have HSI := Lib.hid hsize
      simp only [PV.agg] at HSI
      have HPO := Lib.hid hpo
      have HB4 := Lib.hid hb4
      have HES := Lib.hid hes
      have HF4 := Lib.hid (show Fr w w4 (fun b => b = g ∨ S b) from (HF3.out.mono (T := fun b => b = g ∨ S b) fun b _ hb => Or.inr hb).trans hf34 fun b hb => Or.inl (Or.inl hb))
      obtain ⟨u0, u1, u2, u3⟩ := pcs_cells hb4
      simp only at u0 u1 u2 u3
      have l1 : decide (((n + 1 : Nat) : Int) > 60) = false := decide_eq_false (by omega)
      have l2 : decide ((z : Int) > 512) = false := decide_eq_false (by omega)
      clear hz hsize hpo hb4 hes hps hf34 y0 y1 y2 y3 x0 x1 x2
      go_wp2_with fail
      refine HSI.out.mono ?_
      rintro e w5 ⟨rfl, hb5⟩
      have HB5 := Lib.hid hb5
      clear hb5
      go_wp2_with fail
      go_ret
      refine ⟨⟨1, ps, px, A3, n + 1, c3, l ++ [⟨true, 0, A2, m, c2, d⟩]⟩, _, _, rfl, HB4.out.below HB5.out HB4.out.lt, HPO.out.keep (Fr.of_below HB5.out No) (fun _ _ hn => hn) (fun _ _ hn => hn), HES.out, rfl, rfl, rfl, fun b hb => ?_, fun b hb => ?_, HF4.out.trans (Fr.of_below HB5.out No) fun _ hn => hn.elim⟩
      · rcases hb with hb | hb
        · exact Or.inl hb.1
        · exact Or.inr (by have := HDZ.out; omega)
      · rcases hb.1 with hb | hb
        · exact Or.inl hb.1
        · exact Or.inr hb.1
    · go_simp
      refine hK _ _ ?_
      clear hK K
      refine wpAny_ready (rs := [4]) (by kernel_rfl) (by simp) ?_
      refine AllReady.cons rfl (fun K hK => ?_) AllReady.nil
      go_simp
      refine hK _ _ ?_
      clear hK K
      refine wpAny_ready (rs := [8]) (by kernel_rfl) (by simp) ?_
      refine AllReady.cons rfl (fun K hK => ?_) AllReady.nil
      go_simp
      refine HIN.out.mono ?_
      rintro e w3 ⟨v3, rfl, hown, hgrow⟩
      obtain ⟨A3, c3, rfl, hnc3, _, hnz3, hcr3⟩ := hown.reads (by omega)
      have hrow : ∀ q, Value.ownBlock (.slice pA n pc) = some q → S q ∧ q < w.heap.size := fun q hq => HO.out.o.2.2.1 q hq
      have hb3 := HB2.out.grown hgrow (fun e => HG.out.1 (hrow g e.symm).1)
      have hf3 : Fr w w3 S := (HF2.out).grown hgrow fun q hq => Or.inl (hrow q hq).1
      have hfz := hb3.frozen 3
      have n3 := hb3.cell 3
      simp only [pcs, List.getElem?_toArray, List.getElem?_cons_zero, List.getElem?_cons_succ] at n3
      have HO3 := Lib.hid hown
      have HB3 := Lib.hid hb3
      have HF3 := Lib.hid hf3
      clear hown hgrow hcr3 hnz3 hnc3 hb3 hf3
      refine hK _ _ ?_
      clear hK K
      refine wpAny_take (i := 9) (v := ?_) rfl (by kernel_rfl) (by kernel_rfl) (by kernel_rfl) (fun _ _ _ h => h) (Or.inl ⟨by rfl, ?_⟩) ?_
      rotate_left
      · (intro wq; go_simp; try with_reducible rfl)
      refine wpAny_take (i := 10) (v := ?_) rfl (by kernel_rfl) (by kernel_rfl) (by kernel_rfl) (fun _ _ _ h => h) (Or.inl ⟨by rfl, ?_⟩) ?_
      rotate_left
      · (intro wq; go_simp; try with_reducible rfl)
      refine wpAny_ready (rs := [11]) (by kernel_rfl) (by simp) ?_
      refine AllReady.cons rfl (fun K hK => ?_) AllReady.nil
      go_simp
      refine hK _ _ ?_
      clear hK K
      refine wpAny_done (by kernel_rfl) ?_ _
      obtain ⟨w4, hw4⟩ : ∃ w4, w3.setCell ⟨g, 3, none⟩ (.slice A3 (n + 1) c3) = w4 := ⟨_, rfl⟩
      have hb4 : Blk w4 g 26 (pcs ⟨1, ps, px, A3, n + 1, c3, l ++ [⟨true, 0, A2, m, c2, d⟩]⟩) := by rw [← hw4]; exact HB3.out.set_ 3 _
      have hf34 : Fr w3 w4 (fun b => b = g) := by rw [← hw4]; exact (Fr.refl w3 (fun b => b = g)).setCell (p := ⟨g, 3, none⟩) (Or.inl rfl) _
      have hpo : PO w4 (fun b => (S b ∧ b < w.heap.size) ∨ D2.heap.size ≤ b) (fun b => ((T b ∧ b < w.heap.size) ∨ (w.heap.size ≤ b ∧ b < D2.heap.size)) ∧ b < D2.heap.size) ⟨1, ps, px, A3, n + 1, c3, l ++ [⟨true, 0, A2, m, c2, d⟩]⟩ :=
        ⟨HO3.out.keep hf34 (fun b hb e => by
          subst e
          rcases hb with hb | hb
          · exact HG.out.1 hb.1
          · have := HDZ.out; omega) (fun b hb e => by
          subst e
          rcases hb.1 with hb | hb
          · exact HG.out.2 hb.1
          · omega), by show n + 1 ≤ _; omega, by show (-9223372036854775808 : Int) ≤ 1; omega, by show (1 : Int) ≤ 9223372036854775807; omega, HO.out.s, HO.out.x⟩
      have hes : (⟨1, ps, px, A3, n + 1, c3, l ++ [⟨true, 0, A2, m, c2, d⟩]⟩ : PV).es = (⟨1, ps, px, pA, n, pc, l⟩ : PV).es ++ [⟨true, 0, d⟩] := by
        show List.map CV.e (l ++ _) = List.map CV.e l ++ _
        rw [List.map_append]; rfl
      have hps : psz (⟨1, ps, px, A3, n + 1, c3, l ++ [⟨true, 0, A2, m, c2, d⟩]⟩ : PV).es = psz (⟨1, ps, px, pA, n, pc, l⟩ : PV).es + (6 + m) := by
        rw [hes, psz_snoc]
        show _ + (6 + d.length) = _
        rw [hdl]
      have hsize := size_any ⟨1, ps, px, A3, n + 1, c3, l ++ [⟨true, 0, A2, m, c2, d⟩]⟩ w4 hpo.In.all (fun x hx => by
        rcases List.mem_append.1 hx with hx | hx
        · exact Nat.le_trans (HF.out.m x hx) (by omega)
        · rw [List.mem_singleton] at hx; subst hx; show m ≤ _; omega) (by show n + 1 ≤ _; omega)
      rw [hps] at hsize
      obtain ⟨z, hz⟩ : ∃ z, z = psz (⟨1, ps, px, pA, n, pc, l⟩ : PV).es + (6 + m) := ⟨_, rfl⟩
      rw [← hz] at hsize
      have hz5 : z ≤ 512 := by have := HZ.out; omega
      have HSI := Lib.hid hsize
      simp only [PV.agg] at HSI
      have HPO := Lib.hid hpo
      have HB4 := Lib.hid hb4
      have HES := Lib.hid hes
      have HF4 := Lib.hid (show Fr w w4 (fun b => b = g ∨ S b) from (HF3.out.mono (T := fun b => b = g ∨ S b) fun b _ hb => Or.inr hb).trans hf34 fun b hb => Or.inl (Or.inl hb))
      obtain ⟨u0, u1, u2, u3⟩ := pcs_cells hb4
      simp only at u0 u1 u2 u3
      have l1 : decide (((n + 1 : Nat) : Int) > 60) = false := decide_eq_false (by omega)
      have l2 : decide ((z : Int) > 512) = false := decide_eq_false (by omega)
      clear hz hsize hpo hb4 hes hps hf34 y0 y1 y2 y3 x0 x1 x2
      go_wp2_with fail
      refine HSI.out.mono ?_
      rintro e w5 ⟨rfl, hb5⟩
      have HB5 := Lib.hid hb5
      clear hb5
      go_wp2_with fail
      go_ret
      refine ⟨⟨1, ps, px, A3, n + 1, c3, l ++ [⟨true, 0, A2, m, c2, d⟩]⟩, _, _, rfl, HB4.out.below HB5.out HB4.out.lt, HPO.out.keep (Fr.of_below HB5.out No) (fun _ _ hn => hn) (fun _ _ hn => hn), HES.out, rfl, rfl, rfl, fun b hb => ?_, fun b hb => ?_, HF4.out.trans (Fr.of_below HB5.out No) fun _ hn => hn.elim⟩
      · rcases hb with hb | hb
        · exact Or.inl hb.1
        · exact Or.inr (by have := HDZ.out; omega)
      · rcases hb.1 with hb | hb
        · exact Or.inl hb.1
        · exact Or.inr hb.1
set_option maxRecDepth 100000 in
theorem put_there (w : World) (g : Nat) (p : PV) (hb : Blk w g 26 (pcs p)) (hn : p.n ≤ 300) (s : Nat) (hs : s < p.n) (A : Option Addr) (m c : Nat) :
    Calls Try.prog 84 #[.pointer (some ⟨g, 0, none⟩), .int .i64 (s : Int), .bool true, .slice A m c] w fun e w' => e = .returned (.int .i64 7) ∧ w = w' := by
  obtain ⟨y0, y1, y2, y3⟩ := pcs_cells hb
  obtain ⟨pk, ps, px, pA, n, pc, l⟩ := p
  simp only at y0 y1 y2 y3 hn hs
  have d1 : decide ((s : Int) < 0) = false := decide_eq_false (by omega)
  have d2 : decide ((s : Int) > (n : Int)) = false := decide_eq_false (by omega)
  have d3 : decide (n < s) = false := decide_eq_false (by omega)
  clear hb hn hs
  go_enter Try.func84, Try.ntmps84
  go_wp2
  go_ret
  exact ⟨rfl, rfl⟩
end Go.Proofs.Ytajmpoanmdgmpaa
