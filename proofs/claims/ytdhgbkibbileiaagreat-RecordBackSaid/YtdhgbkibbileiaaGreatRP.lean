/-
  []byte of a string; readOp.
-/
import Derived.Test.YtdhgbkibbileiaaGreatRO
import Derived.Laws.IdiomStrings
namespace Go.Proofs.YtdhgbkibbileiaaGreat
open Go.RowKit

theorem strOf_size (l : List Nat) : (strOf l).size = l.length := by simp [strOf, ByteArray.size]
set_option maxRecDepth 100000 in
theorem run_cvb (w : World) (l : List Nat) (hl : ∀ x ∈ l, x < 256) : ∃ (c : Nat) (o : Obj), l.length ≤ c ∧ (convert 9 24 (.string (strOf l))).run Tryz.prog w = .ok (.slice (some ⟨w.heap.size, 0, none⟩) l.length c) (w.drew.alloc o) ∧
    RB (w.drew.alloc o) (fun b => w.heap.size ≤ b) (some ⟨w.heap.size, 0, none⟩) l.length l := by
  refine ⟨_, _, ?_, by rw [run_bytes_of_string w 9 24 5 (strOf l) Tryz.underlying9 Tryz.underlying24 Tryz.underlying5, strOf_size], rfl, hl, fun _ => ⟨_, rfl, by simp, Nat.le_refl _, fun j hj => ?_⟩⟩
  · exact grownCap_ge _ _ _ _
  · have hb : l[j]? = some l[j] := List.getElem?_eq_getElem hj
    have hx := hl _ (List.getElem_mem hj)
    have hgd : l.getD j 0 = l[j] := by rw [List.getD_eq_getElem?_getD, hb]; rfl
    rw [hgd]
    have hc : w.drew.heap.size = w.heap.size := rfl
    rw [show ((⟨w.heap.size, 0, none⟩ : Addr).add j) = ⟨w.heap.size, j, none⟩ from add_head _ _]
    refine (cell_of_row _ _ _ _ _ _ (heap_alloc_new w.drew _)).trans ?_
    simp only [bytesRow, strOf, List.map_toArray, List.map_map]
    rw [Array.getElem?_append_left (by simpa using hj)]
    simp only [List.getElem?_toArray, List.getElem?_map, hb, Option.map_some, Function.comp_apply]
    congr 2
    have : (UInt8.ofNat l[j]).toNat = l[j] := by simp; omega
    rw [this]

theorem run_cvn (w : World) (l : List Nat) (hl : ∀ x ∈ l, x < 256) : ∃ (A : Option Addr) (c : Nat) (W : World), (convert 9 24 (.string (strOf l))).run Tryz.prog w = .ok (.slice A l.length c) W ∧ l.length ≤ c ∧ (A = none → c = 0) ∧
    RB W (fun b => w.heap.size ≤ b) A l.length l ∧ Below w.heap.size w W := by
  obtain ⟨c, o, h1, h2, h3⟩ := run_cvb w l hl
  exact ⟨_, c, _, h2, h1, (fun h => by cases h), h3, ((Below.refl _ _).drew).alloc (Nat.le_refl _) _⟩
theorem RG.below {W wr w' : World} {S : Nat → Prop} {p : Option Nat} {ok : Bool} {l : List Nat} (h : RG W S p wr ok l) (hb : Below wr.heap.size wr w') : RG W S p w' ok l :=
  ⟨h.1.keep (Fr.of_below hb No) (fun _ _ hn => hn), h.2.1, h.2.2.same (Fr.of_below hb S)⟩
def rT (ok : Bool) (l : List Nat) : List Nat × Bool × List Nat := (valO ok (Cd.text l 180) [], okO ok (Cd.text l 180), leftO ok l (Cd.text l 180))
theorem rT_any (w : World) (S : Nat → Prop) (p : Option Nat) (ok : Bool) (l : List Nat) (h : Rd w S p ok l) (x : List Nat) (ok' : Bool) (l' : List Nat) (hx : rT ok l = (x, ok', l')) :
    Calls Tryz.prog 110 #[ptr p, .int .i64 180] w fun e w' => e = .returned (.string (strOf x)) ∧ Rd w' S p ok' l' ∧ Fr w w' S := by
  unfold rT at hx
  injection hx with h1 h2
  injection h2 with h2 h3
  subst h1 h2 h3
  exact text_any w S p ok l 180 (by decide) (by decide) h
theorem text_in {l : List Nat} {m : Int} {t : List Nat} {k : Nat} (h : Cd.text l m = some (t, k)) : (t.length : Int) ≤ m ∧ ∀ x ∈ t, x ∈ l := by
  unfold Cd.text at h
  cases hf : Cd.front l with
  | none => rw [hf] at h; simp at h
  | some q =>
    obtain ⟨c, n⟩ := q
    rw [hf] at h
    simp only at h
    split at h
    · cases h
    · rename_i hc
      injection h with h
      injection h with h1 h2
      subst h1
      refine ⟨?_, fun x hx => List.mem_of_mem_drop (List.mem_of_mem_take hx)⟩
      simp only [List.length_take]
      omega
theorem rT_in (ok : Bool) (l : List Nat) : (rT ok l).1.length ≤ 180 ∧ ∀ x ∈ (rT ok l).1, x ∈ l := by
  unfold rT
  cases ok with
  | false => simp [valO]
  | true =>
    cases hf : Cd.text l 180 with
    | none => simp [valO]
    | some q =>
      obtain ⟨t, k⟩ := q
      have := text_in hf
      simp only [valO]
      exact ⟨by omega, this.2⟩
/-- readOp, as numbers -/
structure ON where
  k : Int
  s : Int
  t : Nat
  d : List Nat
def OV.n (x : OV) : ON := ⟨x.k, x.s, x.t, x.d⟩
def rO (ok : Bool) (l : List Nat) : ON × Bool × List Nat :=
  let a := rB ok l
  let b := rI a.2.1 a.2.2
  let c := rI b.2.1 b.2.2
  let d := rT c.2.1 c.2.2
  (⟨a.1, i64n b.1, n32 c.1, d.1⟩, d.2)
theorem left_in {α : Type} (ok : Bool) (l : List Nat) (o : Option (α × Nat)) : ∀ x ∈ leftO ok l o, x ∈ l := by
  unfold leftO
  intro x hx
  split at hx
  · exact List.mem_of_mem_drop hx
  · exact hx
theorem rI_in (ok : Bool) (l : List Nat) : ∀ x ∈ (rI ok l).2.2, x ∈ l := left_in _ _ _
theorem rB_in (ok : Bool) (l : List Nat) : ∀ x ∈ (rB ok l).2.2, x ∈ l := left_in _ _ _
/-- what readOp comes to -/
def OpR (w : World) (S : Nat → Prop) (p : Option Nat) (s : ON × Bool × List Nat) (e : Ending) (w' : World) : Prop :=
  ∃ x : OV, e = .returned x.agg ∧ x.n = s.1 ∧ x.In w' (fun b => w.heap.size ≤ b) ∧ Rd w' S p s.2.1 s.2.2 ∧ Fr w w' S
theorem i64_of (n : Nat) : IntKind.i64.wrap (n : Int) = i64n n := rfl
theorem rB_lt (ok : Bool) (l : List Nat) (h : ∀ x ∈ l, x < 256) : (rB ok l).1 < 256 := by
  unfold rB fixO takeO
  cases ok with
  | false => simp [valO]
  | true =>
    by_cases hc : (0 : Int) ≤ (1 : Nat) ∧ ((1 : Nat) : Int) ≤ l.length
    · rw [if_pos hc]
      cases l with
      | nil => simp at hc
      | cons a r =>
        have := h a List.mem_cons_self
        simp [valO, Cd.unfix]
        omega
    · rw [if_neg hc]; simp [valO]
set_option maxHeartbeats 1000000 in
set_option maxRecDepth 100000 in
theorem readOp_any (w : World) (S : Nat → Prop) (p : Option Nat) (ok : Bool) (l : List Nat) (h : Rd w S p ok l) (hS : ∀ b, S b → b < w.heap.size) :
    Calls Tryz.prog 80 #[ptr p] w (OpR w S p (rO ok l)) := by
  obtain ⟨x1, o1, l1, e1⟩ : ∃ x1 o1 l1, rB ok l = (x1, o1, l1) := ⟨_, _, _, rfl⟩
  obtain ⟨x2, o2, l2, e2⟩ : ∃ x2 o2 l2, rI o1 l1 = (x2, o2, l2) := ⟨_, _, _, rfl⟩
  obtain ⟨x3, o3, l3, e3⟩ : ∃ x3 o3 l3, rI o2 l2 = (x3, o3, l3) := ⟨_, _, _, rfl⟩
  obtain ⟨x4, o4, l4, e4⟩ : ∃ x4 o4 l4, rT o3 l3 = (x4, o4, l4) := ⟨_, _, _, rfl⟩
  have hx1 : x1 < 256 := by have := rB_lt ok l h.lt; rw [e1] at this; exact this
  have h4 := rT_in o3 l3
  rw [e4] at h4
  obtain ⟨s, hs⟩ : ∃ s, s = rO ok l := ⟨_, rfl⟩
  rw [← hs]
  simp only [rO, e1, e2, e3, e4] at hs
  have hc := i64n_in x2
  obtain ⟨cn, hcn⟩ : ∃ cn, cn = i64n x2 := ⟨_, rfl⟩
  have g1 : IntKind.i64.wrap (x1 : Int) = (x1 : Int) := IntWalk.i64_in _ (by omega)
  have g2 : IntKind.i64.wrap (x2 : Int) = cn := by rw [hcn]; rfl
  obtain ⟨u3, hu3⟩ : ∃ u3, u3 = n32 x3 := ⟨_, rfl⟩
  have g3 := wrap_n32 x3
  have hu : u3 < 4294967296 := by rw [hu3]; unfold n32; omega
  rw [← hcn] at hs hc
  rw [← hu3] at g3 hs
  have HS := Lib.hid hs
  have i1 := rB_in ok l
  have i2 := rI_in o1 l1
  have i3 := rI_in o2 l2
  rw [e1] at i1
  rw [e2] at i2
  rw [e3] at i3
  have hlt := h.lt
  have HL : Hid (∀ x ∈ l3, x < 256) := Lib.hid fun x hx => hlt x (i1 x (i2 x (i3 x hx)))
  clear i1 i2 i3 hlt
  have H1 := Lib.hid (fun W (h : Rd W S p ok l) => rB_any W S p ok l h _ _ _ e1)
  have H2 := Lib.hid (fun W (h : Rd W S p o1 l1) => rI_any W S p o1 l1 h _ _ _ e2)
  have H3 := Lib.hid (fun W (h : Rd W S p o2 l2) => rI_any W S p o2 l2 h _ _ _ e3)
  have H4 := Lib.hid (fun W (h : Rd W S p o3 l3) => rT_any W S p o3 l3 h _ _ _ e4)
  have HF := Lib.hid (And.intro hu (And.intro hc (And.intro hx1 h4)))
  have HR0 := Lib.hid ((RG.start h hS).alloc (.cells #[.int .i64 0, .int .i64 0, .int .u32 0, .slice none 0 0] 26))
  have HD0 := Lib.hid (Blk.new w 26 #[.int .i64 0, .int .i64 0, .int .u32 0, .slice none 0 0])
  clear e1 e2 e3 e4 h hS hcn hu3 hu hc hs h4 hx1
  go_enter Tryz.func80, Tryz.ntmps80
  go_wp2_with fail
  with_reducible refine (H1.out _ HR0.out.rd).mono ?_
  rintro e w1 ⟨rfl, hr, hf⟩
  have HQ := Lib.hid (HR0.out.call hr hf)
  have HG : Hid (w.heap.size ≤ w1.heap.size) := Lib.hid HQ.out.size
  have HD1 := Lib.hid ((HD0.out.keep hf (HR0.out.not (Nat.le_refl _))).alloc (.cells #[.int .i64 (x1 : Int), .int .i64 0, .int .u32 0, .slice none 0 0] 26))
  have HB1 := Lib.hid (Blk.new w1 26 #[.int .i64 (x1 : Int), .int .i64 0, .int .u32 0, .slice none 0 0])
  have HN : Hid (w.heap.size ≠ w1.heap.size) := Lib.hid (by have := (HD0.out.keep hf (HR0.out.not (Nat.le_refl _))).lt; omega)
  have HR1 := Lib.hid (HQ.out.alloc (.cells #[.int .i64 (x1 : Int), .int .i64 0, .int .u32 0, .slice none 0 0] 26))
  clear hr hf HQ HD0
  go_wp2_with fail
  with_reducible refine (H2.out _ HR1.out.rd).mono ?_
  rintro e w2 ⟨rfl, hr, hf⟩
  have hb := HB1.out.keep hf (HR1.out.not HG.out)
  have yc := hb.cell 1
  have yf := hb.frozen 1
  simp only [List.getElem?_toArray, List.getElem?_cons_zero, List.getElem?_cons_succ] at yc
  have HB2 : Hid (Blk (w2.setCell ⟨w1.heap.size, 1, none⟩ (.int .i64 cn)) w1.heap.size 26 #[.int .i64 (x1 : Int), .int .i64 cn, .int .u32 0, .slice none 0 0]) := Lib.hid (hb.set_ 1 (.int .i64 cn))
  have HD2 := Lib.hid ((HD1.out.keep hf (HR1.out.not (Nat.le_refl _))).far (p := ⟨w1.heap.size, 1, none⟩) HN.out (.int .i64 cn))
  have HR2 := Lib.hid ((HR1.out.call hr hf).set HG.out 1 (.int .i64 cn))
  clear hr hf hb
  go_wp2_with fail
  with_reducible refine (H3.out _ HR2.out.rd).mono ?_
  rintro e w3 ⟨rfl, hr, hf⟩
  have hb := HB2.out.keep hf (HR2.out.not HG.out)
  have yc := hb.cell 2
  have yf := hb.frozen 2
  simp only [List.getElem?_toArray, List.getElem?_cons_zero, List.getElem?_cons_succ] at yc
  have HB3 : Hid (Blk (w3.setCell ⟨w1.heap.size, 2, none⟩ (.int .u32 (u3 : Int))) w1.heap.size 26 #[.int .i64 (x1 : Int), .int .i64 cn, .int .u32 (u3 : Int), .slice none 0 0]) := Lib.hid (hb.set_ 2 (.int .u32 (u3 : Int)))
  have HD3 := Lib.hid ((HD2.out.keep hf (HR2.out.not (Nat.le_refl _))).far (p := ⟨w1.heap.size, 2, none⟩) HN.out (.int .u32 (u3 : Int)))
  have HR3 := Lib.hid ((HR2.out.call hr hf).set HG.out 2 (.int .u32 (u3 : Int)))
  clear hr hf hb
  go_wp2_with fail
  with_reducible refine (H4.out _ HR3.out.rd).mono ?_
  rintro e w4 ⟨rfl, hr, hf⟩
  have h4 := Lib.hid HF.out.2.2.2
  obtain ⟨A, c, w5, hcv, hmc, hA, hrb, hbl⟩ := run_cvn w4 x4 (fun x hx => HL.out x (h4.out.2 x hx))
  obtain ⟨m, hm⟩ : ∃ m, m = x4.length := ⟨_, rfl⟩
  rw [← hm] at hcv hmc hrb
  have hfb := Fr.of_below hbl No
  have hb := (HB3.out.keep hf (HR3.out.not HG.out)).keep hfb (fun hn => hn)
  have yc := hb.cell 3
  have yf := hb.frozen 3
  simp only [List.getElem?_toArray, List.getElem?_cons_zero, List.getElem?_cons_succ] at yc
  have HB4 : Hid (Blk (w5.setCell ⟨w1.heap.size, 3, none⟩ (.slice A m c)) w1.heap.size 26 #[.int .i64 (x1 : Int), .int .i64 cn, .int .u32 (u3 : Int), .slice A m c]) := Lib.hid (hb.set_ 3 (.slice A m c))
  have HD4 := Lib.hid (((HD3.out.keep hf (HR3.out.not (Nat.le_refl _))).keep hfb (fun hn => hn)).far (p := ⟨w1.heap.size, 3, none⟩) HN.out (.slice A m c))
  have HRB := Lib.hid (hrb.far (p := ⟨w1.heap.size, 3, none⟩) (by have := (HB3.out.keep hf (HR3.out.not HG.out)).lt; show ¬ w4.heap.size ≤ w1.heap.size; omega) (.slice A m c))
  have HR4 := Lib.hid (((HR3.out.call hr hf).below hbl).set HG.out 3 (.slice A m c))
  have HC := Lib.hid (And.intro hmc (And.intro hA hm))
  have HNE : Hid (w.heap.size < w4.heap.size) := Lib.hid (HD3.out.keep hf (HR3.out.not (Nat.le_refl _))).lt
  clear hfb hbl hmc hA hm
  have c0 := HB4.out.cell 0
  have c1 := HB4.out.cell 1
  have c2 := HB4.out.cell 2
  have c3 := HB4.out.cell 3
  simp only [List.getElem?_toArray, List.getElem?_cons_zero, List.getElem?_cons_succ] at c0 c1 c2 c3
  clear hr hf hb hrb h4
  have E0 : Hid (Blk _ w.heap.size 26 #[.int .i64 0, .int .i64 0, .int .u32 0, .slice none 0 0]) := HD4
  have a0 := E0.out.cell 0
  have f0 := E0.out.frozen 0
  have E1 : Hid (Blk _ w.heap.size 26 #[.int .i64 (x1 : Int), .int .i64 0, .int .u32 0, .slice none 0 0]) := Lib.hid (E0.out.set_ 0 (.int .i64 (x1 : Int)))
  have a1 := E1.out.cell 1
  have f1 := E1.out.frozen 1
  have E2 : Hid (Blk _ w.heap.size 26 #[.int .i64 (x1 : Int), .int .i64 cn, .int .u32 0, .slice none 0 0]) := Lib.hid (E1.out.set_ 1 (.int .i64 cn))
  have a2 := E2.out.cell 2
  have f2 := E2.out.frozen 2
  have E3 : Hid (Blk _ w.heap.size 26 #[.int .i64 (x1 : Int), .int .i64 cn, .int .u32 (u3 : Int), .slice none 0 0]) := Lib.hid (E2.out.set_ 2 (.int .u32 (u3 : Int)))
  have a3 := E3.out.cell 3
  have f3 := E3.out.frozen 3
  have E4 : Hid (Blk _ w.heap.size 26 #[.int .i64 (x1 : Int), .int .i64 cn, .int .u32 (u3 : Int), .slice A m c]) := Lib.hid (E3.out.set_ 3 (.slice A m c))
  have b0 := E1.out.cell 0
  have b1 := E2.out.cell 1
  have b2 := E3.out.cell 2
  have b3 := E4.out.cell 3
  simp only [List.getElem?_toArray, List.getElem?_cons_zero, List.getElem?_cons_succ] at a0 b0 a1 b1 a2 b2 a3 b3
  have HZ := Lib.hid ((((HR4.out.set (Nat.le_refl _) 0 (.int .i64 (x1 : Int))).set (Nat.le_refl _) 1 (.int .i64 cn)).set (Nat.le_refl _) 2 (.int .u32 (u3 : Int))).set (Nat.le_refl _) 3 (.slice A m c))
  have HRZ := Lib.hid ((((HRB.out.far (p := ⟨w.heap.size, 0, none⟩) (Nat.not_le_of_lt HNE.out) (.int .i64 (x1 : Int))).far (p := ⟨w.heap.size, 1, none⟩) (Nat.not_le_of_lt HNE.out) (.int .i64 cn)).far (p := ⟨w.heap.size, 2, none⟩) (Nat.not_le_of_lt HNE.out) (.int .u32 (u3 : Int))).far (p := ⟨w.heap.size, 3, none⟩) (Nat.not_le_of_lt HNE.out) (.slice A m c))
  go_wp2_with fail
  refine bodyPost_ret (by simp [results, Tryz.results80, go_sem, b0, b1, b2, b3]; try rfl) rfl ?_
  unfold OpR
  rw [HS.out]
  exact ⟨⟨(x1 : Int), cn, u3, A, m, c, x4⟩, rfl, rfl, ⟨HRZ.out.mono fun b _ hb => Nat.le_trans (Nat.le_of_lt HNE.out) hb, by have := HF.out.2.2.1; show _ ≤ (x1 : Int); omega, by have := HF.out.2.2.1; show (x1 : Int) ≤ _; omega, HF.out.2.1.1, HF.out.2.1.2, HF.out.1, HC.out.1, by have := HF.out.2.2.2.1; have := HC.out.2.2; show m ≤ _; omega, HC.out.2.1⟩, HZ.out.rd, HZ.out.2.2⟩
end Go.Proofs.YtdhgbkibbileiaaGreat
