/-
  readCell, readOp.
-/
import Derived.Test.YtdhgbkibbileiaaGreatRN
namespace Go.Proofs.YtdhgbkibbileiaaGreat
open Go.RowKit

def i64n (n : Nat) : Int := IntKind.i64.wrap (n : Int)
theorem i64n_in (n : Nat) : -9223372036854775808 ≤ i64n n ∧ i64n n ≤ 9223372036854775807 := by unfold i64n; rw [IntKind.wrap_i64]; omega
def rR (ok : Bool) (l : List Nat) (n : Int) : List Nat × Bool × List Nat := (valO ok (takeO l n) [], okO ok (takeO l n), leftO ok l (takeO l n))
def rC (ok : Bool) (l : List Nat) : CE × Bool × List Nat :=
  let a := rI ok l
  if a.1 = 0 then (cz, a.2) else
  let b := rI a.2.1 a.2.2
  let c := rR b.2.1 b.2.2 (i64n a.1)
  (⟨true, n32 b.1, c.1⟩, c.2)
theorem rR_len (ok : Bool) (l : List Nat) (n : Int) : (rR ok l n).1.length ≤ l.length := by
  unfold rR valO takeO
  cases ok
  · simp
  · by_cases h : 0 ≤ n ∧ n ≤ l.length
    · rw [if_pos h]; simp only [List.length_take]; omega
    · rw [if_neg h]; simp
theorem Rd.le {w : World} {S : Nat → Prop} {p : Option Nat} {ok : Bool} {l : List Nat} (h : Rd w S p ok l) : l.length ≤ 140737488351232 := by
  cases p with
  | none => rw [h.2]; simp
  | some g => exact Rd.len h
/-- Raw, in steps -/
theorem rR_any (w : World) (S : Nat → Prop) (p : Option Nat) (ok : Bool) (l : List Nat) (n : Int) (hn : -9223372036854775808 ≤ n ∧ n ≤ 9223372036854775807) (h : Rd w S p ok l) (x : List Nat) (ok' : Bool) (l' : List Nat) (hx : rR ok l n = (x, ok', l')) :
    Calls Tryz.prog 136 #[ptr p, .int .i64 n] w fun e w' => ∃ v k, e = .returned v ∧ k ≤ 140737488351232 ∧ Ow w' (fun b => w.heap.size ≤ b) v k x ∧ Rd w' S p ok' l' ∧ Fr w w' S := by
  have hl := rR_len ok l n
  rw [hx] at hl
  have hle := h.le
  unfold rR at hx
  injection hx with h1 h2
  injection h2 with h2 h3
  subst h1 h2 h3
  refine (rraw_any w S p ok l n hn.1 hn.2 h).mono ?_
  rintro e w' ⟨v, k, rfl, hk, ho, hg⟩
  exact ⟨v, k, rfl, by rw [hk]; exact Nat.le_trans hl hle, ho, hg⟩
/-- what readCell comes to -/
def CellR (w : World) (S : Nat → Prop) (p : Option Nat) (s : CE × Bool × List Nat) (e : Ending) (w' : World) : Prop :=
  ∃ x : CV, e = .returned x.agg ∧ x.e = s.1 ∧ x.In w' (fun b => w.heap.size ≤ b) ∧ x.m ≤ 140737488351232 ∧ Rd w' S p s.2.1 s.2.2 ∧ Fr w w' S
set_option maxHeartbeats 1000000 in
set_option maxRecDepth 100000 in
theorem readCell_any (w : World) (S : Nat → Prop) (p : Option Nat) (ok : Bool) (l : List Nat) (h : Rd w S p ok l) (hS : ∀ b, S b → b < w.heap.size) :
    Calls Tryz.prog 118 #[ptr p] w (CellR w S p (rC ok l)) := by
  obtain ⟨x1, o1, l1, e1⟩ : ∃ x1 o1 l1, rI ok l = (x1, o1, l1) := ⟨_, _, _, rfl⟩
  obtain ⟨x2, o2, l2, e2⟩ : ∃ x2 o2 l2, rI o1 l1 = (x2, o2, l2) := ⟨_, _, _, rfl⟩
  obtain ⟨x3, o3, l3, e3⟩ : ∃ x3 o3 l3, rR o2 l2 (i64n x1) = (x3, o3, l3) := ⟨_, _, _, rfl⟩
  obtain ⟨s, hs⟩ : ∃ s, s = rC ok l := ⟨_, rfl⟩
  rw [← hs]
  simp only [rC, e1, e2, e3] at hs
  have hc := i64n_in x1
  obtain ⟨cn, hcn⟩ : ∃ cn, cn = i64n x1 := ⟨_, rfl⟩
  have g0 : IntKind.i64.wrap (x1 : Int) = cn := by rw [hcn]; rfl
  obtain ⟨u2, hu2⟩ : ∃ u2, u2 = n32 x2 := ⟨_, rfl⟩
  have g2 := wrap_n32 x2
  have hu : u2 < 4294967296 := by rw [hu2]; unfold n32; omega
  rw [← hcn] at e3 hc
  rw [← hu2] at g2 hs
  have HS := Lib.hid hs
  have H1 := Lib.hid (fun W (h : Rd W S p ok l) => rI_any W S p ok l h _ _ _ e1)
  have H2 := Lib.hid (fun W (h : Rd W S p o1 l1) => rI_any W S p o1 l1 h _ _ _ e2)
  have H3 := Lib.hid (fun W (h : Rd W S p o2 l2) => rR_any W S p o2 l2 cn hc h _ _ _ e3)
  have HU := Lib.hid hu
  have HR0 := Lib.hid ((RG.start h hS).alloc (.cells #[.bool false, .int .u32 0, .slice none 0 0] 55))
  have HD0 := Lib.hid (Blk.new w 55 #[.bool false, .int .u32 0, .slice none 0 0])
  clear e1 e2 e3 h hS hcn hu2 hu hc hs
  go_enter Tryz.func118, Tryz.ntmps118
  go_wp2_with fail
  with_reducible refine (H1.out _ HR0.out.rd).mono ?_
  rintro e w1 ⟨rfl, hr, hf⟩
  have HQ := Lib.hid (HR0.out.call hr hf)
  have HG : Hid (w.heap.size ≤ w1.heap.size) := Lib.hid HQ.out.size
  have HD1 := Lib.hid (HD0.out.keep hf (HR0.out.not (Nat.le_refl _)))
  clear hr hf HD0
  by_cases h0 : x1 = 0
  · have d1 : ((x1 : Int) == 0) = true := by rw [beq_iff_eq]; omega
    have d2 : (x1 == 0) = true := by rw [beq_iff_eq]; exact h0
    have HSS : Hid (s = (cz, o1, l1)) := Lib.hid (by rw [HS.out, if_pos h0])
    clear h0
    have E0 : Hid (Blk _ w.heap.size 55 #[.bool false, .int .u32 0, .slice none 0 0]) := HD1
    have a0 := E0.out.cell 0
    have f0 := E0.out.frozen 0
    have E1 : Hid (Blk _ w.heap.size 55 #[.bool false, .int .u32 0, .slice none 0 0]) := Lib.hid (E0.out.set_ 0 (.bool false))
    have a1 := E1.out.cell 1
    have f1 := E1.out.frozen 1
    have E2 : Hid (Blk _ w.heap.size 55 #[.bool false, .int .u32 0, .slice none 0 0]) := Lib.hid (E1.out.set_ 1 (.int .u32 0))
    have a2 := E2.out.cell 2
    have f2 := E2.out.frozen 2
    have E3 : Hid (Blk _ w.heap.size 55 #[.bool false, .int .u32 0, .slice none 0 0]) := Lib.hid (E2.out.set_ 2 (.slice none 0 0))
    have b0 := E1.out.cell 0
    have b1 := E2.out.cell 1
    have b2 := E3.out.cell 2
    simp only [List.getElem?_toArray, List.getElem?_cons_zero, List.getElem?_cons_succ] at a0 b0 a1 b1 a2 b2

    have HZ := Lib.hid (((HQ.out.set (Nat.le_refl _) 0 (.bool false)).set (Nat.le_refl _) 1 (.int .u32 0)).set (Nat.le_refl _) 2 (.slice none 0 0))
    go_wp2_with fail
    refine bodyPost_ret (by simp [results, Tryz.results118, go_sem, b0, b1, b2]; try rfl) rfl ?_
    unfold CellR
    rw [HSS.out]
    exact ⟨⟨false, 0, none, 0, 0, []⟩, rfl, rfl, ⟨RB.nil_, by decide, Nat.le_refl _, by decide, fun _ => rfl⟩, by decide, HZ.out.rd, HZ.out.2.2⟩
  · have d1 : ((x1 : Int) == 0) = false := beq_false_of_ne (by omega)
    have d2 : (x1 == 0) = false := beq_false_of_ne h0
    have HSS : Hid (s = ((⟨true, u2, x3⟩ : CE), o3, l3)) := Lib.hid (by rw [HS.out, if_neg h0])
    clear h0
    go_wp2_with fail
    with_reducible refine (H2.out _ HQ.out.rd).mono ?_
    rintro e w2 ⟨rfl, hr, hf⟩
    have HQ2 := Lib.hid (HQ.out.call hr hf)
    have HD2 := Lib.hid ((HD1.out.keep hf (HQ.out.not (Nat.le_refl _))).alloc (.cells #[.bool true, .int .u32 (u2 : Int), .slice none 0 0] 55))
    have HB2 := Lib.hid (Blk.new w2 55 #[.bool true, .int .u32 (u2 : Int), .slice none 0 0])
    have HN : Hid (w.heap.size ≠ w2.heap.size) := Lib.hid (by have := (HD1.out.keep hf (HQ.out.not (Nat.le_refl _))).lt; omega)
    have HG2 : Hid (w.heap.size ≤ w2.heap.size) := Lib.hid HQ2.out.size
    have HR2 := Lib.hid (HQ2.out.alloc (.cells #[.bool true, .int .u32 (u2 : Int), .slice none 0 0] 55))
    clear hr hf HQ HD1 HQ2
    go_wp2_with fail
    with_reducible refine (H3.out _ HR2.out.rd).mono ?_
    rintro e w3 ⟨v, m, rfl, hm, ho, hr, hf⟩
    obtain ⟨A, c, rfl, hmc, hA, _⟩ := ho.reads
    have hb := HB2.out.keep hf (HR2.out.not HG2.out)
    have yc := hb.cell 2
    have yf := hb.frozen 2
    simp only [List.getElem?_toArray, List.getElem?_cons_zero, List.getElem?_cons_succ] at yc
    have HB3 : Hid (Blk (w3.setCell ⟨w2.heap.size, 2, none⟩ (.slice A m c)) w2.heap.size 55 #[.bool true, .int .u32 (u2 : Int), .slice A m c]) := Lib.hid (hb.set_ 2 (.slice A m c))
    have hd := HD2.out.keep hf (HR2.out.not (Nat.le_refl _))
    have HD3 := Lib.hid (hd.far (p := ⟨w2.heap.size, 2, none⟩) HN.out (.slice A m c))
    have HR3 := Lib.hid ((HR2.out.call hr hf).set HG2.out 2 (.slice A m c))
    have HO3 := Lib.hid (ho.far hb (by decide) (i := 2) (.slice A m c))
    have HM := Lib.hid (And.intro hm (And.intro hmc hA))
    have c0 := HB3.out.cell 0
    have c1 := HB3.out.cell 1
    have c2 := HB3.out.cell 2
    simp only [List.getElem?_toArray, List.getElem?_cons_zero, List.getElem?_cons_succ] at c0 c1 c2
    clear hr hf hb ho hd hm hmc hA
    have E0 : Hid (Blk _ w.heap.size 55 #[.bool false, .int .u32 0, .slice none 0 0]) := HD3
    have a0 := E0.out.cell 0
    have f0 := E0.out.frozen 0
    have E1 : Hid (Blk _ w.heap.size 55 #[.bool true, .int .u32 0, .slice none 0 0]) := Lib.hid (E0.out.set_ 0 (.bool true))
    have a1 := E1.out.cell 1
    have f1 := E1.out.frozen 1
    have E2 : Hid (Blk _ w.heap.size 55 #[.bool true, .int .u32 (u2 : Int), .slice none 0 0]) := Lib.hid (E1.out.set_ 1 (.int .u32 (u2 : Int)))
    have a2 := E2.out.cell 2
    have f2 := E2.out.frozen 2
    have E3 : Hid (Blk _ w.heap.size 55 #[.bool true, .int .u32 (u2 : Int), .slice A m c]) := Lib.hid (E2.out.set_ 2 (.slice A m c))
    have b0 := E1.out.cell 0
    have b1 := E2.out.cell 1
    have b2 := E3.out.cell 2
    simp only [List.getElem?_toArray, List.getElem?_cons_zero, List.getElem?_cons_succ] at a0 b0 a1 b1 a2 b2

    have HZ := Lib.hid (((HR3.out.set (Nat.le_refl _) 0 (.bool true)).set (Nat.le_refl _) 1 (.int .u32 (u2 : Int))).set (Nat.le_refl _) 2 (.slice A m c))
    have HO4 := Lib.hid (((HO3.out.far E0.out (by decide) (i := 0) (.bool true)).far E1.out (by decide) (i := 1) (.int .u32 (u2 : Int))).far E2.out (by decide) (i := 2) (.slice A m c))
    go_wp2_with fail
    refine bodyPost_ret (by simp [results, Tryz.results118, go_sem, b0, b1, b2]; try rfl) rfl ?_
    unfold CellR
    rw [HSS.out]
    obtain ⟨A', c', he, _, _, hrb⟩ := HO4.out.reads
    injection he with hA1 _ hc1
    subst hA1 hc1
    exact ⟨⟨true, u2, A, m, c, x3⟩, rfl, rfl, ⟨hrb.mono fun b _ hb => Nat.le_trans HR2.out.size hb, HU.out, HM.out.2.1, Nat.le_trans HM.out.1 (by decide), HM.out.2.2⟩, HM.out.1, HZ.out.rd, HZ.out.2.2⟩
end Go.Proofs.YtdhgbkibbileiaaGreat
