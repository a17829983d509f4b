/-
UB
-/
import Derived.Test.YtdhgbkibbileiaaGreatUA
import Derived.Handy
set_option maxRecDepth 100000
namespace Go.Proofs.YtdhgbkibbileiaaGreat
open Go.RowKit
def QG (W : World) (S Y : Nat → Prop) (g : Nat) (wr : World) (ok : Bool) (l : List Nat) : Prop := Qe wr S Y g ok l ∧ (∀ b, S b → b < W.heap.size) ∧ (∀ b, Y b → b < W.heap.size) ∧ Fr W wr S
section
variable {W wr w' : World} {S Y : Nat → Prop} {p : Nat} {ok ok' : Bool} {l l' : List Nat}
theorem QG.start (h : Qe W S Y p ok l) (hS : ∀ b, S b → b < W.heap.size) (hY : ∀ b, Y b → b < W.heap.size) : QG W S Y p W ok l := ⟨h, hS, hY, Fr.refl _ _⟩
theorem QG.alloc (h : QG W S Y p wr ok l) (o : Obj) : QG W S Y p (wr.alloc o) ok l := ⟨h.1.keep ((Fr.refl wr No).alloc o) (fun _ _ hn => hn) (fun _ _ hn => hn), h.2.1, h.2.2.1, h.2.2.2.alloc o⟩
theorem QG.set (h : QG W S Y p wr ok l) {g : Nat} (hg : W.heap.size ≤ g) (i : Nat) (u : Value) : QG W S Y p (wr.setCell ⟨g, i, none⟩ u) ok l :=
 ⟨h.1.keep ((Fr.refl wr (fun b => b = g)).setCell (p := ⟨g, i, none⟩) (Or.inl rfl) u) (fun b hb hn => by have := h.2.1 b hb; subst hn; omega) (fun b hb hn => by have := h.2.2.1 b hb; subst hn; omega), h.2.1, h.2.2.1, h.2.2.2.setCell (p := ⟨g, i, none⟩) (Or.inr hg) u⟩
theorem QG.fr (h : QG W S Y p wr ok l) {U : Nat → Prop} (hf : Fr wr w' U) (hU : ∀ b, U b → W.heap.size ≤ b) : QG W S Y p w' ok l :=
 ⟨h.1.keep hf (fun b hb hn => by have := h.2.1 b hb; have := hU b hn; omega) (fun b hb hn => by have := h.2.2.1 b hb; have := hU b hn; omega), h.2.1, h.2.2.1, h.2.2.2.trans hf fun b hb => Or.inr (hU b hb)⟩
theorem QG.call (h : QG W S Y p wr ok l) (h1 : LQ wr S Y p (ok', l') w') : QG W S Y p w' ok' l' := ⟨h1.1, h.2.1, h.2.2.1, h.2.2.2.same h1.2⟩
theorem QG.rd (h : QG W S Y p wr ok l) : Qe wr S Y p ok l := h.1
theorem QG.size (h : QG W S Y p wr ok l) : W.heap.size ≤ wr.heap.size := h.2.2.2.size
theorem QG.not (h : QG W S Y p wr ok l) {g : Nat} (hg : W.heap.size ≤ g) : ¬ S g := fun hs => by have := h.2.1 g hs; omega
theorem QG.grown {row : Option Nat} (h : QG W S Y p wr ok l) (hg : wr.grownBy w' row) (hr : ∀ k, row = some k → W.heap.size ≤ k) : QG W S Y p w' ok l :=
 h.fr (U := fun b => row = some b) ((Fr.refl wr _).grown hg fun _ hk => Or.inl hk) fun b hb => hr b hb
theorem QG.bad (h : QG W S Y p wr ok l) : ∃ A n c, Blk wr p 75 #[.slice A n c, .bool (!ok)] := by
 obtain ⟨⟨_, A, n, c, hb, _⟩, _⟩ := h
 exact ⟨A, n, c, hb⟩
end
theorem qT_any (w : World) (S Y : Nat → Prop) (g : Nat) (ok : Bool) (l : List Nat) (h : Qe w S Y g ok l) (x : List Nat) (ok' : Bool) (l' : List Nat) (hx : rT ok l = (x, ok', l')) :
  Calls Tryz.prog 58 #[qp g, .int .i64 180] w fun e w' => e = .returned (.string (strOf x)) ∧ LQ w S Y g (ok', l') w' := by
 unfold rT at hx
 injection hx with h1 h2
 injection h2 with h2 h3
 subst h1 h2 h3
 exact eqtext_any w S Y g ok l 180 (by decide) (by decide) h
def ReadD (w : World) (S Y : Nat → Prop) (g : Nat) (s : RE × Bool × List Nat) (e : Ending) (w' : World) : Prop :=
 ∃ r : RV, e = .returned r.agg ∧ r.e = s.1 ∧ r.In w' (fun b => w.heap.size ≤ b) ∧ Qe w' S Y g s.2.1 s.2.2 ∧ Fr w w' S
theorem dN_in (ok : Bool) (l : List Nat) : ∀ x ∈ (dN ok l).2.2, x ∈ l := rI_in ok l
theorem rI_lt (ok : Bool) (l : List Nat) : (rI ok l).1 < 18446744073709551616 := front_val_lt ok l
set_option maxHeartbeats 4000000 in
theorem rread_1 (w : World) (S Y : Nat → Prop) (g : Nat) (ok : Bool) (l : List Nat) (k : Int) (hk1 : -9223372036854775808 ≤ k) (hk2 : k ≤ 9223372036854775807) (hk : k = 1) (h : Qe w S Y g ok l) (hS : ∀ b, S b → b < w.heap.size) (hY : ∀ b, Y b → b < w.heap.size) :
  Calls Tryz.prog 36 #[.int .i64 k, qp g] w (ReadD w S Y g (dR k ok l)) := by
 obtain ⟨W1, hW1⟩ : ∃ W1, w.alloc (.cells #[.int .i64 0, .int .u64 0, .int .u32 0, .int .u64 0, .int .u64 0, .int .u32 0, .int .u32 0, .int .i64 0, .int .i64 0, .int .u32 0, .slice none 0 0, .slice none 0 0, .slice none 0 0, .slice none 0 0, .int .u32 0] 31) = W1 := ⟨_, rfl⟩
 obtain ⟨V, hV⟩ : ∃ V, W1.alloc (.cells #[.int .i64 0, .int .u64 0, .int .u32 0, .int .u64 0, .int .u64 0, .int .u32 0, .int .u32 0, .int .i64 0, .int .i64 0, .int .u32 0, .slice none 0 0, .slice none 0 0, .slice none 0 0, .slice none 0 0, .int .u32 0] 31) = V := ⟨_, rfl⟩
 have hz1 : W1.heap.size = w.heap.size + 1 := by rw [← hW1]; simp
 have hz : V.heap.size = w.heap.size + 2 := by rw [← hV]; simp [hz1]
 have hb0 : Blk V w.heap.size 31 #[.int .i64 0, .int .u64 0, .int .u32 0, .int .u64 0, .int .u64 0, .int .u32 0, .int .u32 0, .int .i64 0, .int .i64 0, .int .u32 0, .slice none 0 0, .slice none 0 0, .slice none 0 0, .slice none 0 0, .int .u32 0] := by rw [← hV, ← hW1]; exact (Blk.new w 31 _).alloc _
 have hb1 : Blk V W1.heap.size 31 #[.int .i64 0, .int .u64 0, .int .u32 0, .int .u64 0, .int .u64 0, .int .u32 0, .int .u32 0, .int .i64 0, .int .i64 0, .int .u32 0, .slice none 0 0, .slice none 0 0, .slice none 0 0, .slice none 0 0, .int .u32 0] := by rw [← hV]; exact Blk.new W1 31 _
 have hq0 : QG w S Y g V ok l := by rw [← hV, ← hW1]; exact ((QG.start h hS hY).alloc _).alloc _
 have HLT := Lib.hid h.lt
 obtain ⟨x1, o1, l1, e1⟩ : ∃ x o m, dN ok l = (x, o, m) := ⟨_, _, _, rfl⟩
 have hs : ∃ s, s = dR k ok l := ⟨_, rfl⟩
 obtain ⟨s, hs⟩ := hs
 rw [← hs]
 unfold dR dA dB at hs
 rw [if_neg (by omega), if_neg (by omega)] at hs
 simp only [e1, if_pos hk, if_neg (show ¬ k = 3 by omega), if_neg (show ¬ (k = 2 ∨ k = 3) by omega)] at hs
 have b1 : x1 < 4294967296 := by have := dN_lt ok l; rw [e1] at this; exact this
 have HS := Lib.hid hs
 have HBD : Hid ((-9223372036854775808 ≤ k ∧ k ≤ 9223372036854775807) ∧ x1 < 4294967296) := Lib.hid ⟨⟨hk1, hk2⟩, b1⟩
 have H1 := Lib.hid (fun W (h : Qe W S Y g ok l) => qN_any W S Y g ok l h _ _ _ e1)
 have HBV := Lib.hid hb1
 have HDV := Lib.hid hb0
 have HRV := Lib.hid hq0
 have HG : Hid (w.heap.size ≤ W1.heap.size) := Lib.hid (by omega)
 have HNE : Hid (w.heap.size ≠ W1.heap.size ∧ W1.heap.size = w.heap.size + 1) := Lib.hid ⟨by omega, hz1⟩
 have c4 : (k == 4) = false := beq_false_of_ne (by omega)
 have n4 : (k != 4) = true := bne_iff_ne.2 (by omega)
 have c8 : (k == 8) = false := beq_false_of_ne (by omega)
 have n8 : (k != 8) = true := bne_iff_ne.2 (by omega)
 have c1 : (k == 1) = true := by rw [hk]; rfl
 have n1 : (k != 1) = false := by rw [hk]; rfl
 have c3 : (k == 3) = false := beq_false_of_ne (by omega)
 have n3 : (k != 3) = true := bne_iff_ne.2 (by omega)
 have c2 : (k == 2) = false := beq_false_of_ne (by omega)
 have n2 : (k != 2) = true := bne_iff_ne.2 (by omega)
 clear e1 b1 h hS hY hs hk hk1 hk2 hz1 hz hb0 hb1 hq0
 unfold qp at H1 ⊢
 go_enter Tryz.func36, Tryz.ntmps36
 go_wp2_with (refine wpList_stB rfl 31 (.tmp 5) (.tmp 19) rfl W1.heap.size #[.int .i64 k, .int .u64 0, .int .u32 0, .int .u64 0, .int .u64 0, .int .u32 0, .int .u32 0, .int .i64 0, .int .i64 0, .int .u32 0, .slice none 0 0, .slice none 0 0, .slice none 0 0, .slice none 0 0, .int .u32 0] rfl rfl 31 #[.int .i64 0, .int .u64 0, .int .u32 0, .int .u64 0, .int .u64 0, .int .u32 0, .int .u32 0, .int .i64 0, .int .i64 0, .int .u32 0, .slice none 0 0, .slice none 0 0, .slice none 0 0, .slice none 0 0, .int .u32 0] HBV.out size31 rfl rfl ?_; intro W hbW hfW; have HB0 := Lib.hid hbW; have HD0 := Lib.hid (HDV.out.keep hfW (fun h => by have := HNE.out.1; exact this h)); have HR0 := Lib.hid (HRV.out.fr hfW (fun b hb => by have := HG.out; omega)); clear hbW hfW)
 with_reducible refine (H1.out _ HR0.out.rd).mono ?_
 rintro e w1 ⟨rfl, hq⟩
 have hb := HB0.out.keep hq.2 (HR0.out.not HG.out)
 have hd := HD0.out.keep hq.2 (HR0.out.not (Nat.le_refl _))
 have yc := hb.cell 2
 have yf := hb.frozen 2
 simp only [List.getElem?_toArray, List.getElem?_cons_zero, List.getElem?_cons_succ] at yc
 have HB1 : Hid (Blk (w1.setCell ⟨W1.heap.size, 2, none⟩ (.int .u32 (x1 : Int))) W1.heap.size 31 #[.int .i64 k, .int .u64 0, .int .u32 (x1 : Int), .int .u64 0, .int .u64 0, .int .u32 0, .int .u32 0, .int .i64 0, .int .i64 0, .int .u32 0, .slice none 0 0, .slice none 0 0, .slice none 0 0, .slice none 0 0, .int .u32 0]) := Lib.hid (hb.set_ 2 (.int .u32 (x1 : Int)))
 have HD1 := Lib.hid (hd.far (p := ⟨W1.heap.size, 2, none⟩) HNE.out.1 (.int .u32 (x1 : Int)))
 have HR1 := Lib.hid ((HR0.out.call hq).set HG.out 2 (.int .u32 (x1 : Int)))
 clear hq hb hd
 go_wp2_with (first
  | (refine wpList_ldB rfl 31 (.tmp 5) rfl W1.heap.size rfl 31 #[.int .i64 k, .int .u64 0, .int .u32 (x1 : Int), .int .u64 0, .int .u64 0, .int .u32 0, .int .u32 0, .int .i64 0, .int .i64 0, .int .u32 0, .slice none 0 0, .slice none 0 0, .slice none 0 0, .slice none 0 0, .int .u32 0] _ HB1.out Tryz.underlying31 rfl size31 ?_)
  | (refine wpList_stB rfl 31 (.tmp 4) (.tmp 199) rfl w.heap.size #[.int .i64 k, .int .u64 0, .int .u32 (x1 : Int), .int .u64 0, .int .u64 0, .int .u32 0, .int .u32 0, .int .i64 0, .int .i64 0, .int .u32 0, .slice none 0 0, .slice none 0 0, .slice none 0 0, .slice none 0 0, .int .u32 0] rfl rfl 31 #[.int .i64 0, .int .u64 0, .int .u32 0, .int .u64 0, .int .u64 0, .int .u32 0, .int .u32 0, .int .i64 0, .int .i64 0, .int .u32 0, .slice none 0 0, .slice none 0 0, .slice none 0 0, .slice none 0 0, .int .u32 0] HD1.out size31 rfl rfl ?_
     intro wz hbz hfz
     have HBZ := Lib.hid hbz
     have HFZ := Lib.hid hfz
     clear hbz hfz))
 refine bodyPost_ret (results_cell_row Tryz.results36 _ _ w.heap.size 31 _ (0, 0) _ rfl HBZ.out Tryz.underlying31 rfl size31) rfl ?_
 have hrz := HR1.out.fr HFZ.out (fun b hb => by omega)
 rw [HS.out]
 refine ⟨⟨k, 0, x1, 0, 0, 0, 0, ⟨0, 0, 0, none, 0, 0, []⟩, none, 0, 0, [], none, 0, 0, [], none, 0, 0, [], 0⟩, rfl, rfl, ?_, hrz.rd, hrz.2.2.2⟩
 have hbd := HBD.out
 exact ⟨hbd.1.1, hbd.1.2, (by show (0 : Nat) < _; decide), hbd.2, (by show (0 : Nat) < _; decide), (by show (0 : Nat) < _; decide), (by show (0 : Nat) < _; decide), (by show (0 : Nat) < _; decide), ⟨RB.nil_, (by show (-9223372036854775808 : Int) ≤ 0; decide), (by show (0 : Int) ≤ 9223372036854775807; decide), (by show (-9223372036854775808 : Int) ≤ 0; decide), (by show (0 : Int) ≤ 9223372036854775807; decide), (by show (0 : Nat) < _; decide), Nat.le_refl _, Nat.zero_le _, fun _ => rfl⟩, ⟨rfl, (fun x hx => by cases hx), Nat.zero_le _, fun h => absurd h (Nat.lt_irrefl 0)⟩, ⟨rfl, (fun x hx => by cases hx), Nat.zero_le _, fun h => absurd h (Nat.lt_irrefl 0)⟩, ⟨rfl, (fun x hx => by cases hx), Nat.zero_le _, fun h => absurd h (Nat.lt_irrefl 0)⟩, (by show (0 : Nat) < _; decide)⟩
set_option maxHeartbeats 4000000 in
theorem rread_o (w : World) (S Y : Nat → Prop) (g : Nat) (ok : Bool) (l : List Nat) (k : Int) (hk1 : -9223372036854775808 ≤ k) (hk2 : k ≤ 9223372036854775807) (hk : k ≠ 1 ∧ k ≠ 2 ∧ k ≠ 3 ∧ k ≠ 4 ∧ k ≠ 8) (h : Qe w S Y g ok l) (hS : ∀ b, S b → b < w.heap.size) (hY : ∀ b, Y b → b < w.heap.size) :
  Calls Tryz.prog 36 #[.int .i64 k, qp g] w (ReadD w S Y g (dR k ok l)) := by
 obtain ⟨W1, hW1⟩ : ∃ W1, w.alloc (.cells #[.int .i64 0, .int .u64 0, .int .u32 0, .int .u64 0, .int .u64 0, .int .u32 0, .int .u32 0, .int .i64 0, .int .i64 0, .int .u32 0, .slice none 0 0, .slice none 0 0, .slice none 0 0, .slice none 0 0, .int .u32 0] 31) = W1 := ⟨_, rfl⟩
 obtain ⟨V, hV⟩ : ∃ V, W1.alloc (.cells #[.int .i64 0, .int .u64 0, .int .u32 0, .int .u64 0, .int .u64 0, .int .u32 0, .int .u32 0, .int .i64 0, .int .i64 0, .int .u32 0, .slice none 0 0, .slice none 0 0, .slice none 0 0, .slice none 0 0, .int .u32 0] 31) = V := ⟨_, rfl⟩
 have hz1 : W1.heap.size = w.heap.size + 1 := by rw [← hW1]; simp
 have hz : V.heap.size = w.heap.size + 2 := by rw [← hV]; simp [hz1]
 have hb0 : Blk V w.heap.size 31 #[.int .i64 0, .int .u64 0, .int .u32 0, .int .u64 0, .int .u64 0, .int .u32 0, .int .u32 0, .int .i64 0, .int .i64 0, .int .u32 0, .slice none 0 0, .slice none 0 0, .slice none 0 0, .slice none 0 0, .int .u32 0] := by rw [← hV, ← hW1]; exact (Blk.new w 31 _).alloc _
 have hb1 : Blk V W1.heap.size 31 #[.int .i64 0, .int .u64 0, .int .u32 0, .int .u64 0, .int .u64 0, .int .u32 0, .int .u32 0, .int .i64 0, .int .i64 0, .int .u32 0, .slice none 0 0, .slice none 0 0, .slice none 0 0, .slice none 0 0, .int .u32 0] := by rw [← hV]; exact Blk.new W1 31 _
 have hq0 : QG w S Y g V ok l := by rw [← hV, ← hW1]; exact ((QG.start h hS hY).alloc _).alloc _
 have HLT := Lib.hid h.lt
 obtain ⟨x1, o1, l1, e1⟩ : ∃ x o m, dN ok l = (x, o, m) := ⟨_, _, _, rfl⟩
 obtain ⟨x2, o2, l2, e2⟩ : ∃ x o m, rI o1 l1 = (x, o, m) := ⟨_, _, _, rfl⟩
 have hs : ∃ s, s = dR k ok l := ⟨_, rfl⟩
 obtain ⟨s, hs⟩ := hs
 rw [← hs]
 unfold dR dA dB at hs
 rw [if_neg (by omega), if_neg (by omega)] at hs
 simp only [e1, e2, if_neg (show ¬ k = 1 by omega), if_neg (show ¬ k = 3 by omega), if_neg (show ¬ (k = 2 ∨ k = 3) by omega)] at hs
 have b1 : x1 < 4294967296 := by have := dN_lt ok l; rw [e1] at this; exact this
 have b2 : x2 < 18446744073709551616 := by have := rI_lt o1 l1; rw [e2] at this; exact this
 have HS := Lib.hid hs
 have HBD : Hid ((-9223372036854775808 ≤ k ∧ k ≤ 9223372036854775807) ∧ x1 < 4294967296 ∧ x2 < 18446744073709551616) := Lib.hid ⟨⟨hk1, hk2⟩, b1, b2⟩
 have H1 := Lib.hid (fun W (h : Qe W S Y g ok l) => qN_any W S Y g ok l h _ _ _ e1)
 have H2 := Lib.hid (fun W (h : Qe W S Y g o1 l1) => qI_any W S Y g o1 l1 h _ _ _ e2)
 have HBV := Lib.hid hb1
 have HDV := Lib.hid hb0
 have HRV := Lib.hid hq0
 have HG : Hid (w.heap.size ≤ W1.heap.size) := Lib.hid (by omega)
 have HNE : Hid (w.heap.size ≠ W1.heap.size ∧ W1.heap.size = w.heap.size + 1) := Lib.hid ⟨by omega, hz1⟩
 have c4 : (k == 4) = false := beq_false_of_ne (by omega)
 have n4 : (k != 4) = true := bne_iff_ne.2 (by omega)
 have c8 : (k == 8) = false := beq_false_of_ne (by omega)
 have n8 : (k != 8) = true := bne_iff_ne.2 (by omega)
 have c1 : (k == 1) = false := beq_false_of_ne (by omega)
 have n1 : (k != 1) = true := bne_iff_ne.2 (by omega)
 have c3 : (k == 3) = false := beq_false_of_ne (by omega)
 have n3 : (k != 3) = true := bne_iff_ne.2 (by omega)
 have c2 : (k == 2) = false := beq_false_of_ne (by omega)
 have n2 : (k != 2) = true := bne_iff_ne.2 (by omega)
 clear e1 e2 b1 b2 h hS hY hs hk hk1 hk2 hz1 hz hb0 hb1 hq0
 unfold qp at H1 H2 ⊢
 go_enter Tryz.func36, Tryz.ntmps36
 go_wp2_with (refine wpList_stB rfl 31 (.tmp 5) (.tmp 19) rfl W1.heap.size #[.int .i64 k, .int .u64 0, .int .u32 0, .int .u64 0, .int .u64 0, .int .u32 0, .int .u32 0, .int .i64 0, .int .i64 0, .int .u32 0, .slice none 0 0, .slice none 0 0, .slice none 0 0, .slice none 0 0, .int .u32 0] rfl rfl 31 #[.int .i64 0, .int .u64 0, .int .u32 0, .int .u64 0, .int .u64 0, .int .u32 0, .int .u32 0, .int .i64 0, .int .i64 0, .int .u32 0, .slice none 0 0, .slice none 0 0, .slice none 0 0, .slice none 0 0, .int .u32 0] HBV.out size31 rfl rfl ?_; intro W hbW hfW; have HB0 := Lib.hid hbW; have HD0 := Lib.hid (HDV.out.keep hfW (fun h => by have := HNE.out.1; exact this h)); have HR0 := Lib.hid (HRV.out.fr hfW (fun b hb => by have := HG.out; omega)); clear hbW hfW)
 with_reducible refine (H1.out _ HR0.out.rd).mono ?_
 rintro e w1 ⟨rfl, hq⟩
 have hb := HB0.out.keep hq.2 (HR0.out.not HG.out)
 have hd := HD0.out.keep hq.2 (HR0.out.not (Nat.le_refl _))
 have yc := hb.cell 2
 have yf := hb.frozen 2
 simp only [List.getElem?_toArray, List.getElem?_cons_zero, List.getElem?_cons_succ] at yc
 have HB1 : Hid (Blk (w1.setCell ⟨W1.heap.size, 2, none⟩ (.int .u32 (x1 : Int))) W1.heap.size 31 #[.int .i64 k, .int .u64 0, .int .u32 (x1 : Int), .int .u64 0, .int .u64 0, .int .u32 0, .int .u32 0, .int .i64 0, .int .i64 0, .int .u32 0, .slice none 0 0, .slice none 0 0, .slice none 0 0, .slice none 0 0, .int .u32 0]) := Lib.hid (hb.set_ 2 (.int .u32 (x1 : Int)))
 have HD1 := Lib.hid (hd.far (p := ⟨W1.heap.size, 2, none⟩) HNE.out.1 (.int .u32 (x1 : Int)))
 have HR1 := Lib.hid ((HR0.out.call hq).set HG.out 2 (.int .u32 (x1 : Int)))
 clear hq hb hd
 go_wp2_with fail
 with_reducible refine (H2.out _ HR1.out.rd).mono ?_
 rintro e w2 ⟨rfl, hq⟩
 have hb := HB1.out.keep hq.2 (HR1.out.not HG.out)
 have hd := HD1.out.keep hq.2 (HR1.out.not (Nat.le_refl _))
 have yc := hb.cell 3
 have yf := hb.frozen 3
 simp only [List.getElem?_toArray, List.getElem?_cons_zero, List.getElem?_cons_succ] at yc
 have HB2 : Hid (Blk (w2.setCell ⟨W1.heap.size, 3, none⟩ (.int .u64 (x2 : Int))) W1.heap.size 31 #[.int .i64 k, .int .u64 0, .int .u32 (x1 : Int), .int .u64 (x2 : Int), .int .u64 0, .int .u32 0, .int .u32 0, .int .i64 0, .int .i64 0, .int .u32 0, .slice none 0 0, .slice none 0 0, .slice none 0 0, .slice none 0 0, .int .u32 0]) := Lib.hid (hb.set_ 3 (.int .u64 (x2 : Int)))
 have HD2 := Lib.hid (hd.far (p := ⟨W1.heap.size, 3, none⟩) HNE.out.1 (.int .u64 (x2 : Int)))
 have HR2 := Lib.hid ((HR1.out.call hq).set HG.out 3 (.int .u64 (x2 : Int)))
 clear hq hb hd
 go_wp2_with (first
  | (refine wpList_ldB rfl 31 (.tmp 5) rfl W1.heap.size rfl 31 #[.int .i64 k, .int .u64 0, .int .u32 (x1 : Int), .int .u64 (x2 : Int), .int .u64 0, .int .u32 0, .int .u32 0, .int .i64 0, .int .i64 0, .int .u32 0, .slice none 0 0, .slice none 0 0, .slice none 0 0, .slice none 0 0, .int .u32 0] _ HB2.out Tryz.underlying31 rfl size31 ?_)
  | (refine wpList_stB rfl 31 (.tmp 4) (.tmp 199) rfl w.heap.size #[.int .i64 k, .int .u64 0, .int .u32 (x1 : Int), .int .u64 (x2 : Int), .int .u64 0, .int .u32 0, .int .u32 0, .int .i64 0, .int .i64 0, .int .u32 0, .slice none 0 0, .slice none 0 0, .slice none 0 0, .slice none 0 0, .int .u32 0] rfl rfl 31 #[.int .i64 0, .int .u64 0, .int .u32 0, .int .u64 0, .int .u64 0, .int .u32 0, .int .u32 0, .int .i64 0, .int .i64 0, .int .u32 0, .slice none 0 0, .slice none 0 0, .slice none 0 0, .slice none 0 0, .int .u32 0] HD2.out size31 rfl rfl ?_
     intro wz hbz hfz
     have HBZ := Lib.hid hbz
     have HFZ := Lib.hid hfz
     clear hbz hfz))
 refine bodyPost_ret (results_cell_row Tryz.results36 _ _ w.heap.size 31 _ (0, 0) _ rfl HBZ.out Tryz.underlying31 rfl size31) rfl ?_
 have hrz := HR2.out.fr HFZ.out (fun b hb => by omega)
 rw [HS.out]
 refine ⟨⟨k, 0, x1, x2, 0, 0, 0, ⟨0, 0, 0, none, 0, 0, []⟩, none, 0, 0, [], none, 0, 0, [], none, 0, 0, [], 0⟩, rfl, rfl, ?_, hrz.rd, hrz.2.2.2⟩
 have hbd := HBD.out
 exact ⟨hbd.1.1, hbd.1.2, (by show (0 : Nat) < _; decide), hbd.2.1, hbd.2.2, (by show (0 : Nat) < _; decide), (by show (0 : Nat) < _; decide), (by show (0 : Nat) < _; decide), ⟨RB.nil_, (by show (-9223372036854775808 : Int) ≤ 0; decide), (by show (0 : Int) ≤ 9223372036854775807; decide), (by show (-9223372036854775808 : Int) ≤ 0; decide), (by show (0 : Int) ≤ 9223372036854775807; decide), (by show (0 : Nat) < _; decide), Nat.le_refl _, Nat.zero_le _, fun _ => rfl⟩, ⟨rfl, (fun x hx => by cases hx), Nat.zero_le _, fun h => absurd h (Nat.lt_irrefl 0)⟩, ⟨rfl, (fun x hx => by cases hx), Nat.zero_le _, fun h => absurd h (Nat.lt_irrefl 0)⟩, ⟨rfl, (fun x hx => by cases hx), Nat.zero_le _, fun h => absurd h (Nat.lt_irrefl 0)⟩, (by show (0 : Nat) < _; decide)⟩
set_option maxHeartbeats 4000000 in
theorem rread_2 (w : World) (S Y : Nat → Prop) (g : Nat) (ok : Bool) (l : List Nat) (k : Int) (hk1 : -9223372036854775808 ≤ k) (hk2 : k ≤ 9223372036854775807) (hk : k = 2) (h : Qe w S Y g ok l) (hS : ∀ b, S b → b < w.heap.size) (hY : ∀ b, Y b → b < w.heap.size) :
  Calls Tryz.prog 36 #[.int .i64 k, qp g] w (ReadD w S Y g (dR k ok l)) := by
 obtain ⟨W1, hW1⟩ : ∃ W1, w.alloc (.cells #[.int .i64 0, .int .u64 0, .int .u32 0, .int .u64 0, .int .u64 0, .int .u32 0, .int .u32 0, .int .i64 0, .int .i64 0, .int .u32 0, .slice none 0 0, .slice none 0 0, .slice none 0 0, .slice none 0 0, .int .u32 0] 31) = W1 := ⟨_, rfl⟩
 obtain ⟨V, hV⟩ : ∃ V, W1.alloc (.cells #[.int .i64 0, .int .u64 0, .int .u32 0, .int .u64 0, .int .u64 0, .int .u32 0, .int .u32 0, .int .i64 0, .int .i64 0, .int .u32 0, .slice none 0 0, .slice none 0 0, .slice none 0 0, .slice none 0 0, .int .u32 0] 31) = V := ⟨_, rfl⟩
 have hz1 : W1.heap.size = w.heap.size + 1 := by rw [← hW1]; simp
 have hz : V.heap.size = w.heap.size + 2 := by rw [← hV]; simp [hz1]
 have hb0 : Blk V w.heap.size 31 #[.int .i64 0, .int .u64 0, .int .u32 0, .int .u64 0, .int .u64 0, .int .u32 0, .int .u32 0, .int .i64 0, .int .i64 0, .int .u32 0, .slice none 0 0, .slice none 0 0, .slice none 0 0, .slice none 0 0, .int .u32 0] := by rw [← hV, ← hW1]; exact (Blk.new w 31 _).alloc _
 have hb1 : Blk V W1.heap.size 31 #[.int .i64 0, .int .u64 0, .int .u32 0, .int .u64 0, .int .u64 0, .int .u32 0, .int .u32 0, .int .i64 0, .int .i64 0, .int .u32 0, .slice none 0 0, .slice none 0 0, .slice none 0 0, .slice none 0 0, .int .u32 0] := by rw [← hV]; exact Blk.new W1 31 _
 have hq0 : QG w S Y g V ok l := by rw [← hV, ← hW1]; exact ((QG.start h hS hY).alloc _).alloc _
 have HLT := Lib.hid h.lt
 obtain ⟨x1, o1, l1, e1⟩ : ∃ x o m, dN ok l = (x, o, m) := ⟨_, _, _, rfl⟩
 obtain ⟨x2, o2, l2, e2⟩ : ∃ x o m, rI o1 l1 = (x, o, m) := ⟨_, _, _, rfl⟩
 obtain ⟨x3, o3, l3, e3⟩ : ∃ x o m, dN o2 l2 = (x, o, m) := ⟨_, _, _, rfl⟩
 obtain ⟨x4, o4, l4, e4⟩ : ∃ x o m, dN o3 l3 = (x, o, m) := ⟨_, _, _, rfl⟩
 obtain ⟨x5, o5, l5, e5⟩ : ∃ x o m, rB o4 l4 = (x, o, m) := ⟨_, _, _, rfl⟩
 obtain ⟨x6, o6, l6, e6⟩ : ∃ x o m, dN o5 l5 = (x, o, m) := ⟨_, _, _, rfl⟩
 obtain ⟨x7, o7, l7, e7⟩ : ∃ x o m, dN o6 l6 = (x, o, m) := ⟨_, _, _, rfl⟩
 obtain ⟨x8, o8, l8, e8⟩ : ∃ x o m, rT o7 l7 = (x, o, m) := ⟨_, _, _, rfl⟩
 have hs : ∃ s, s = dR k ok l := ⟨_, rfl⟩
 obtain ⟨s, hs⟩ := hs
 rw [← hs]
 unfold dR dA dB dO at hs
 rw [if_neg (by omega), if_neg (by omega)] at hs
 simp only [e1, e2, e3, e4, e5, e6, e7, e8, if_neg (show ¬ k = 1 by omega), if_neg (show ¬ k = 3 by omega), if_pos (show k = 2 ∨ k = 3 by omega)] at hs
 have b1 : x1 < 4294967296 := by have := dN_lt ok l; rw [e1] at this; exact this
 have b2 : x2 < 18446744073709551616 := by have := rI_lt o1 l1; rw [e2] at this; exact this
 have b3 : x3 < 4294967296 := by have := dN_lt o2 l2; rw [e3] at this; exact this
 have b4 : x4 < 4294967296 := by have := dN_lt o3 l3; rw [e4] at this; exact this
 obtain ⟨kn, hkn⟩ : ∃ kn, kn = i64n x5 := ⟨_, rfl⟩
 have b5 := i64n_in x5
 have g5 : IntKind.i64.wrap (x5 : Int) = kn := by rw [hkn]; rfl
 rw [← hkn] at b5 hs
 have b6 : x6 < 4294967296 := by have := dN_lt o5 l5; rw [e6] at this; exact this
 have g6 : IntKind.i64.wrap (x6 : Int) = (x6 : Int) := IntWalk.i64_in _ (by omega)
 have b7 : x7 < 4294967296 := by have := dN_lt o6 l6; rw [e7] at this; exact this
 have b8 := rT_in o7 l7
 rw [e8] at b8
 have i1 : ∀ x ∈ l1, x ∈ l := by have := dN_in ok l; rw [e1] at this; exact this
 have i2 : ∀ x ∈ l2, x ∈ l1 := by have := rI_in o1 l1; rw [e2] at this; exact this
 have i3 : ∀ x ∈ l3, x ∈ l2 := by have := dN_in o2 l2; rw [e3] at this; exact this
 have i4 : ∀ x ∈ l4, x ∈ l3 := by have := dN_in o3 l3; rw [e4] at this; exact this
 have i5 : ∀ x ∈ l5, x ∈ l4 := by have := rB_in o4 l4; rw [e5] at this; exact this
 have i6 : ∀ x ∈ l6, x ∈ l5 := by have := dN_in o5 l5; rw [e6] at this; exact this
 have i7 : ∀ x ∈ l7, x ∈ l6 := by have := dN_in o6 l6; rw [e7] at this; exact this
 have HLX : Hid (∀ x ∈ l7, x < 256) := Lib.hid fun x hx => HLT.out x (i1 x (i2 x (i3 x (i4 x (i5 x (i6 x (i7 x hx)))))))
 clear i1 i2 i3 i4 i5 i6 i7
 have HTX := Lib.hid b8
 clear b8
 have HS := Lib.hid hs
 have HBD : Hid ((-9223372036854775808 ≤ k ∧ k ≤ 9223372036854775807) ∧ x1 < 4294967296 ∧ x2 < 18446744073709551616 ∧ x3 < 4294967296 ∧ x4 < 4294967296 ∧ (-9223372036854775808 ≤ kn ∧ kn ≤ 9223372036854775807) ∧ x6 < 4294967296 ∧ x7 < 4294967296) := Lib.hid ⟨⟨hk1, hk2⟩, b1, b2, b3, b4, b5, b6, b7⟩
 have H1 := Lib.hid (fun W (h : Qe W S Y g ok l) => qN_any W S Y g ok l h _ _ _ e1)
 have H2 := Lib.hid (fun W (h : Qe W S Y g o1 l1) => qI_any W S Y g o1 l1 h _ _ _ e2)
 have H3 := Lib.hid (fun W (h : Qe W S Y g o2 l2) => qN_any W S Y g o2 l2 h _ _ _ e3)
 have H4 := Lib.hid (fun W (h : Qe W S Y g o3 l3) => qN_any W S Y g o3 l3 h _ _ _ e4)
 have H5 := Lib.hid (fun W (h : Qe W S Y g o4 l4) => qB_any W S Y g o4 l4 h _ _ _ e5)
 have H6 := Lib.hid (fun W (h : Qe W S Y g o5 l5) => qN_any W S Y g o5 l5 h _ _ _ e6)
 have H7 := Lib.hid (fun W (h : Qe W S Y g o6 l6) => qN_any W S Y g o6 l6 h _ _ _ e7)
 have H8 := Lib.hid (fun W (h : Qe W S Y g o7 l7) => qT_any W S Y g o7 l7 h _ _ _ e8)
 have HBV := Lib.hid hb1
 have HDV := Lib.hid hb0
 have HRV := Lib.hid hq0
 have HG : Hid (w.heap.size ≤ W1.heap.size) := Lib.hid (by omega)
 have HNE : Hid (w.heap.size ≠ W1.heap.size ∧ W1.heap.size = w.heap.size + 1) := Lib.hid ⟨by omega, hz1⟩
 have c4 : (k == 4) = false := beq_false_of_ne (by omega)
 have n4 : (k != 4) = true := bne_iff_ne.2 (by omega)
 have c8 : (k == 8) = false := beq_false_of_ne (by omega)
 have n8 : (k != 8) = true := bne_iff_ne.2 (by omega)
 have c1 : (k == 1) = false := beq_false_of_ne (by omega)
 have n1 : (k != 1) = true := bne_iff_ne.2 (by omega)
 have c3 : (k == 3) = false := beq_false_of_ne (by omega)
 have n3 : (k != 3) = true := bne_iff_ne.2 (by omega)
 have c2 : (k == 2) = true := by rw [hk]; rfl
 have n2 : (k != 2) = false := by rw [hk]; rfl
 clear e1 e2 e3 e4 e5 e6 e7 e8 b1 b2 b3 b4 b5 b6 b7 h hS hY hs hk hk1 hk2 hz1 hz hb0 hb1 hq0 hkn
 unfold qp at H1 H2 H3 H4 H5 H6 H7 H8 ⊢
 go_enter Tryz.func36, Tryz.ntmps36
 go_wp2_with (refine wpList_stB rfl 31 (.tmp 5) (.tmp 19) rfl W1.heap.size #[.int .i64 k, .int .u64 0, .int .u32 0, .int .u64 0, .int .u64 0, .int .u32 0, .int .u32 0, .int .i64 0, .int .i64 0, .int .u32 0, .slice none 0 0, .slice none 0 0, .slice none 0 0, .slice none 0 0, .int .u32 0] rfl rfl 31 #[.int .i64 0, .int .u64 0, .int .u32 0, .int .u64 0, .int .u64 0, .int .u32 0, .int .u32 0, .int .i64 0, .int .i64 0, .int .u32 0, .slice none 0 0, .slice none 0 0, .slice none 0 0, .slice none 0 0, .int .u32 0] HBV.out size31 rfl rfl ?_; intro W hbW hfW; have HB0 := Lib.hid hbW; have HD0 := Lib.hid (HDV.out.keep hfW (fun h => by have := HNE.out.1; exact this h)); have HR0 := Lib.hid (HRV.out.fr hfW (fun b hb => by have := HG.out; omega)); clear hbW hfW)
 with_reducible refine (H1.out _ HR0.out.rd).mono ?_
 rintro e w1 ⟨rfl, hq⟩
 have hb := HB0.out.keep hq.2 (HR0.out.not HG.out)
 have hd := HD0.out.keep hq.2 (HR0.out.not (Nat.le_refl _))
 have yc := hb.cell 2
 have yf := hb.frozen 2
 simp only [List.getElem?_toArray, List.getElem?_cons_zero, List.getElem?_cons_succ] at yc
 have HB1 : Hid (Blk (w1.setCell ⟨W1.heap.size, 2, none⟩ (.int .u32 (x1 : Int))) W1.heap.size 31 #[.int .i64 k, .int .u64 0, .int .u32 (x1 : Int), .int .u64 0, .int .u64 0, .int .u32 0, .int .u32 0, .int .i64 0, .int .i64 0, .int .u32 0, .slice none 0 0, .slice none 0 0, .slice none 0 0, .slice none 0 0, .int .u32 0]) := Lib.hid (hb.set_ 2 (.int .u32 (x1 : Int)))
 have HD1 := Lib.hid (hd.far (p := ⟨W1.heap.size, 2, none⟩) HNE.out.1 (.int .u32 (x1 : Int)))
 have HR1 := Lib.hid ((HR0.out.call hq).set HG.out 2 (.int .u32 (x1 : Int)))
 clear hq hb hd
 go_wp2_with fail
 with_reducible refine (H2.out _ HR1.out.rd).mono ?_
 rintro e w2 ⟨rfl, hq⟩
 have hb := HB1.out.keep hq.2 (HR1.out.not HG.out)
 have hd := HD1.out.keep hq.2 (HR1.out.not (Nat.le_refl _))
 have yc := hb.cell 3
 have yf := hb.frozen 3
 simp only [List.getElem?_toArray, List.getElem?_cons_zero, List.getElem?_cons_succ] at yc
 have HB2 : Hid (Blk (w2.setCell ⟨W1.heap.size, 3, none⟩ (.int .u64 (x2 : Int))) W1.heap.size 31 #[.int .i64 k, .int .u64 0, .int .u32 (x1 : Int), .int .u64 (x2 : Int), .int .u64 0, .int .u32 0, .int .u32 0, .int .i64 0, .int .i64 0, .int .u32 0, .slice none 0 0, .slice none 0 0, .slice none 0 0, .slice none 0 0, .int .u32 0]) := Lib.hid (hb.set_ 3 (.int .u64 (x2 : Int)))
 have HD2 := Lib.hid (hd.far (p := ⟨W1.heap.size, 3, none⟩) HNE.out.1 (.int .u64 (x2 : Int)))
 have HR2 := Lib.hid ((HR1.out.call hq).set HG.out 3 (.int .u64 (x2 : Int)))
 clear hq hb hd
 go_wp2_with fail
 with_reducible refine (H3.out _ HR2.out.rd).mono ?_
 rintro e w3 ⟨rfl, hq⟩
 have hb := HB2.out.keep hq.2 (HR2.out.not HG.out)
 have hd := HD2.out.keep hq.2 (HR2.out.not (Nat.le_refl _))
 have yc := hb.cell 5
 have yf := hb.frozen 5
 simp only [List.getElem?_toArray, List.getElem?_cons_zero, List.getElem?_cons_succ] at yc
 have HB3 : Hid (Blk (w3.setCell ⟨W1.heap.size, 5, none⟩ (.int .u32 (x3 : Int))) W1.heap.size 31 #[.int .i64 k, .int .u64 0, .int .u32 (x1 : Int), .int .u64 (x2 : Int), .int .u64 0, .int .u32 (x3 : Int), .int .u32 0, .int .i64 0, .int .i64 0, .int .u32 0, .slice none 0 0, .slice none 0 0, .slice none 0 0, .slice none 0 0, .int .u32 0]) := Lib.hid (hb.set_ 5 (.int .u32 (x3 : Int)))
 have HD3 := Lib.hid (hd.far (p := ⟨W1.heap.size, 5, none⟩) HNE.out.1 (.int .u32 (x3 : Int)))
 have HR3 := Lib.hid ((HR2.out.call hq).set HG.out 5 (.int .u32 (x3 : Int)))
 clear hq hb hd
 go_wp2_with fail
 with_reducible refine (H4.out _ HR3.out.rd).mono ?_
 rintro e w4 ⟨rfl, hq⟩
 have hb := HB3.out.keep hq.2 (HR3.out.not HG.out)
 have hd := HD3.out.keep hq.2 (HR3.out.not (Nat.le_refl _))
 have yc := hb.cell 6
 have yf := hb.frozen 6
 simp only [List.getElem?_toArray, List.getElem?_cons_zero, List.getElem?_cons_succ] at yc
 have HB4 : Hid (Blk (w4.setCell ⟨W1.heap.size, 6, none⟩ (.int .u32 (x4 : Int))) W1.heap.size 31 #[.int .i64 k, .int .u64 0, .int .u32 (x1 : Int), .int .u64 (x2 : Int), .int .u64 0, .int .u32 (x3 : Int), .int .u32 (x4 : Int), .int .i64 0, .int .i64 0, .int .u32 0, .slice none 0 0, .slice none 0 0, .slice none 0 0, .slice none 0 0, .int .u32 0]) := Lib.hid (hb.set_ 6 (.int .u32 (x4 : Int)))
 have HD4 := Lib.hid (hd.far (p := ⟨W1.heap.size, 6, none⟩) HNE.out.1 (.int .u32 (x4 : Int)))
 have HR4 := Lib.hid ((HR3.out.call hq).set HG.out 6 (.int .u32 (x4 : Int)))
 clear hq hb hd
 go_wp2_with fail
 with_reducible refine (H5.out _ HR4.out.rd).mono ?_
 rintro e w5 ⟨rfl, hq⟩
 have hb := HB4.out.keep hq.2 (HR4.out.not HG.out)
 have hd := HD4.out.keep hq.2 (HR4.out.not (Nat.le_refl _))
 have yc := hb.cell 7
 have yf := hb.frozen 7
 simp only [List.getElem?_toArray, List.getElem?_cons_zero, List.getElem?_cons_succ] at yc
 have HB5 : Hid (Blk (w5.setCell ⟨W1.heap.size, 7, none⟩ (.int .i64 kn)) W1.heap.size 31 #[.int .i64 k, .int .u64 0, .int .u32 (x1 : Int), .int .u64 (x2 : Int), .int .u64 0, .int .u32 (x3 : Int), .int .u32 (x4 : Int), .int .i64 kn, .int .i64 0, .int .u32 0, .slice none 0 0, .slice none 0 0, .slice none 0 0, .slice none 0 0, .int .u32 0]) := Lib.hid (hb.set_ 7 (.int .i64 kn))
 have HD5 := Lib.hid (hd.far (p := ⟨W1.heap.size, 7, none⟩) HNE.out.1 (.int .i64 kn))
 have HR5 := Lib.hid ((HR4.out.call hq).set HG.out 7 (.int .i64 kn))
 clear hq hb hd
 go_wp2_with fail
 with_reducible refine (H6.out _ HR5.out.rd).mono ?_
 rintro e w6 ⟨rfl, hq⟩
 have hb := HB5.out.keep hq.2 (HR5.out.not HG.out)
 have hd := HD5.out.keep hq.2 (HR5.out.not (Nat.le_refl _))
 have yc := hb.cell 8
 have yf := hb.frozen 8
 simp only [List.getElem?_toArray, List.getElem?_cons_zero, List.getElem?_cons_succ] at yc
 have HB6 : Hid (Blk (w6.setCell ⟨W1.heap.size, 8, none⟩ (.int .i64 (x6 : Int))) W1.heap.size 31 #[.int .i64 k, .int .u64 0, .int .u32 (x1 : Int), .int .u64 (x2 : Int), .int .u64 0, .int .u32 (x3 : Int), .int .u32 (x4 : Int), .int .i64 kn, .int .i64 (x6 : Int), .int .u32 0, .slice none 0 0, .slice none 0 0, .slice none 0 0, .slice none 0 0, .int .u32 0]) := Lib.hid (hb.set_ 8 (.int .i64 (x6 : Int)))
 have HD6 := Lib.hid (hd.far (p := ⟨W1.heap.size, 8, none⟩) HNE.out.1 (.int .i64 (x6 : Int)))
 have HR6 := Lib.hid ((HR5.out.call hq).set HG.out 8 (.int .i64 (x6 : Int)))
 clear hq hb hd
 go_wp2_with fail
 with_reducible refine (H7.out _ HR6.out.rd).mono ?_
 rintro e w7 ⟨rfl, hq⟩
 have hb := HB6.out.keep hq.2 (HR6.out.not HG.out)
 have hd := HD6.out.keep hq.2 (HR6.out.not (Nat.le_refl _))
 have yc := hb.cell 9
 have yf := hb.frozen 9
 simp only [List.getElem?_toArray, List.getElem?_cons_zero, List.getElem?_cons_succ] at yc
 have HB7 : Hid (Blk (w7.setCell ⟨W1.heap.size, 9, none⟩ (.int .u32 (x7 : Int))) W1.heap.size 31 #[.int .i64 k, .int .u64 0, .int .u32 (x1 : Int), .int .u64 (x2 : Int), .int .u64 0, .int .u32 (x3 : Int), .int .u32 (x4 : Int), .int .i64 kn, .int .i64 (x6 : Int), .int .u32 (x7 : Int), .slice none 0 0, .slice none 0 0, .slice none 0 0, .slice none 0 0, .int .u32 0]) := Lib.hid (hb.set_ 9 (.int .u32 (x7 : Int)))
 have HD7 := Lib.hid (hd.far (p := ⟨W1.heap.size, 9, none⟩) HNE.out.1 (.int .u32 (x7 : Int)))
 have HR7 := Lib.hid ((HR6.out.call hq).set HG.out 9 (.int .u32 (x7 : Int)))
 clear hq hb hd
 go_wp2_with fail
 with_reducible refine (H8.out _ HR7.out.rd).mono ?_
 rintro e w8 ⟨rfl, hq⟩
 have hb := HB7.out.keep hq.2 (HR7.out.not HG.out)
 have hd := HD7.out.keep hq.2 (HR7.out.not (Nat.le_refl _))
 obtain ⟨A, c, wc, hcv, hmc, hA, hrb, hbl⟩ := run_cvn w8 x8 (fun x hx => HLX.out x (HTX.out.2 x hx))
 obtain ⟨m, hm⟩ : ∃ m, m = x8.length := ⟨_, rfl⟩
 rw [← hm] at hcv hmc hrb
 have hfb := Fr.of_below hbl No
 have hb2 := hb.keep hfb (fun hn => hn)
 have hd2 := hd.keep hfb (fun hn => hn)
 have yc := hb2.cell 10
 have yf := hb2.frozen 10
 simp only [List.getElem?_toArray, List.getElem?_cons_zero, List.getElem?_cons_succ] at yc
 have HB8 : Hid (Blk (wc.setCell ⟨W1.heap.size, 10, none⟩ (.slice A m c)) W1.heap.size 31 #[.int .i64 k, .int .u64 0, .int .u32 (x1 : Int), .int .u64 (x2 : Int), .int .u64 0, .int .u32 (x3 : Int), .int .u32 (x4 : Int), .int .i64 kn, .int .i64 (x6 : Int), .int .u32 (x7 : Int), .slice A m c, .slice none 0 0, .slice none 0 0, .slice none 0 0, .int .u32 0]) := Lib.hid (hb2.set_ 10 (.slice A m c))
 have HD8 := Lib.hid (hd2.far (p := ⟨W1.heap.size, 10, none⟩) HNE.out.1 (.slice A m c))
 have HR8 := Lib.hid (((HR7.out.call hq).fr hfb (fun _ hn => hn.elim)).set HG.out 10 (.slice A m c))
 have HRB := Lib.hid (hrb.far (p := ⟨W1.heap.size, 10, none⟩) (by have := hb.lt; show ¬ w8.heap.size ≤ W1.heap.size; omega) (.slice A m c))
 have HCM := Lib.hid (And.intro hmc (And.intro hA hm))
 have HW4 : Hid (W1.heap.size < w8.heap.size) := Lib.hid hb.lt
 clear hq hb hd hb2 hd2 hfb hmc hA hm hrb hbl
 go_wp2_with (first
  | (refine wpList_ldB rfl 31 (.tmp 5) rfl W1.heap.size rfl 31 #[.int .i64 k, .int .u64 0, .int .u32 (x1 : Int), .int .u64 (x2 : Int), .int .u64 0, .int .u32 (x3 : Int), .int .u32 (x4 : Int), .int .i64 kn, .int .i64 (x6 : Int), .int .u32 (x7 : Int), .slice A m c, .slice none 0 0, .slice none 0 0, .slice none 0 0, .int .u32 0] _ HB8.out Tryz.underlying31 rfl size31 ?_)
  | (refine wpList_stB rfl 31 (.tmp 4) (.tmp 199) rfl w.heap.size #[.int .i64 k, .int .u64 0, .int .u32 (x1 : Int), .int .u64 (x2 : Int), .int .u64 0, .int .u32 (x3 : Int), .int .u32 (x4 : Int), .int .i64 kn, .int .i64 (x6 : Int), .int .u32 (x7 : Int), .slice A m c, .slice none 0 0, .slice none 0 0, .slice none 0 0, .int .u32 0] rfl rfl 31 #[.int .i64 0, .int .u64 0, .int .u32 0, .int .u64 0, .int .u64 0, .int .u32 0, .int .u32 0, .int .i64 0, .int .i64 0, .int .u32 0, .slice none 0 0, .slice none 0 0, .slice none 0 0, .slice none 0 0, .int .u32 0] HD8.out size31 rfl rfl ?_
     intro wz hbz hfz
     have HBZ := Lib.hid hbz
     have HFZ := Lib.hid hfz
     clear hbz hfz))
 refine bodyPost_ret (results_cell_row Tryz.results36 _ _ w.heap.size 31 _ (0, 0) _ rfl HBZ.out Tryz.underlying31 rfl size31) rfl ?_
 have hrz := HR8.out.fr HFZ.out (fun b hb => by omega)
 rw [HS.out]
 refine ⟨⟨k, 0, x1, x2, 0, x3, x4, ⟨kn, (x6 : Int), x7, A, m, c, x8⟩, none, 0, 0, [], none, 0, 0, [], none, 0, 0, [], 0⟩, rfl, rfl, ?_, hrz.rd, hrz.2.2.2⟩
 have hbd := HBD.out
 exact ⟨hbd.1.1, hbd.1.2, (by show (0 : Nat) < _; decide), hbd.2.1, hbd.2.2.1, (by show (0 : Nat) < _; decide), hbd.2.2.2.1, hbd.2.2.2.2.1, ⟨(HRB.out.keep HFZ.out (fun b hb he => by have := HW4.out; have := HNE.out.2; omega)).mono (fun b _ hb => by have := HW4.out; have := HNE.out.2; omega), hbd.2.2.2.2.2.1.1, hbd.2.2.2.2.2.1.2, (by show (-9223372036854775808 : Int) ≤ ((x6 : Int)); have := hbd.2.2.2.2.2.2.1; omega), (by show (((x6 : Int)) : Int) ≤ 9223372036854775807; have := hbd.2.2.2.2.2.2.1; omega), hbd.2.2.2.2.2.2.2, HCM.out.1, (by have := HTX.out.1; have := HCM.out.2.2; show m ≤ 9223372036854775807; omega), HCM.out.2.1⟩, ⟨rfl, (fun x hx => by cases hx), Nat.zero_le _, fun h => absurd h (Nat.lt_irrefl 0)⟩, ⟨rfl, (fun x hx => by cases hx), Nat.zero_le _, fun h => absurd h (Nat.lt_irrefl 0)⟩, ⟨rfl, (fun x hx => by cases hx), Nat.zero_le _, fun h => absurd h (Nat.lt_irrefl 0)⟩, (by show (0 : Nat) < _; decide)⟩
set_option maxHeartbeats 4000000 in
theorem rread_3 (w : World) (S Y : Nat → Prop) (g : Nat) (ok : Bool) (l : List Nat) (k : Int) (hk1 : -9223372036854775808 ≤ k) (hk2 : k ≤ 9223372036854775807) (hk : k = 3) (h : Qe w S Y g ok l) (hS : ∀ b, S b → b < w.heap.size) (hY : ∀ b, Y b → b < w.heap.size) :
  Calls Tryz.prog 36 #[.int .i64 k, qp g] w (ReadD w S Y g (dR k ok l)) := by
 obtain ⟨W1, hW1⟩ : ∃ W1, w.alloc (.cells #[.int .i64 0, .int .u64 0, .int .u32 0, .int .u64 0, .int .u64 0, .int .u32 0, .int .u32 0, .int .i64 0, .int .i64 0, .int .u32 0, .slice none 0 0, .slice none 0 0, .slice none 0 0, .slice none 0 0, .int .u32 0] 31) = W1 := ⟨_, rfl⟩
 obtain ⟨V, hV⟩ : ∃ V, W1.alloc (.cells #[.int .i64 0, .int .u64 0, .int .u32 0, .int .u64 0, .int .u64 0, .int .u32 0, .int .u32 0, .int .i64 0, .int .i64 0, .int .u32 0, .slice none 0 0, .slice none 0 0, .slice none 0 0, .slice none 0 0, .int .u32 0] 31) = V := ⟨_, rfl⟩
 have hz1 : W1.heap.size = w.heap.size + 1 := by rw [← hW1]; simp
 have hz : V.heap.size = w.heap.size + 2 := by rw [← hV]; simp [hz1]
 have hb0 : Blk V w.heap.size 31 #[.int .i64 0, .int .u64 0, .int .u32 0, .int .u64 0, .int .u64 0, .int .u32 0, .int .u32 0, .int .i64 0, .int .i64 0, .int .u32 0, .slice none 0 0, .slice none 0 0, .slice none 0 0, .slice none 0 0, .int .u32 0] := by rw [← hV, ← hW1]; exact (Blk.new w 31 _).alloc _
 have hb1 : Blk V W1.heap.size 31 #[.int .i64 0, .int .u64 0, .int .u32 0, .int .u64 0, .int .u64 0, .int .u32 0, .int .u32 0, .int .i64 0, .int .i64 0, .int .u32 0, .slice none 0 0, .slice none 0 0, .slice none 0 0, .slice none 0 0, .int .u32 0] := by rw [← hV]; exact Blk.new W1 31 _
 have hq0 : QG w S Y g V ok l := by rw [← hV, ← hW1]; exact ((QG.start h hS hY).alloc _).alloc _
 have HLT := Lib.hid h.lt
 obtain ⟨x1, o1, l1, e1⟩ : ∃ x o m, dN ok l = (x, o, m) := ⟨_, _, _, rfl⟩
 obtain ⟨x2, o2, l2, e2⟩ : ∃ x o m, rI o1 l1 = (x, o, m) := ⟨_, _, _, rfl⟩
 obtain ⟨x3, o3, l3, e3⟩ : ∃ x o m, rI o2 l2 = (x, o, m) := ⟨_, _, _, rfl⟩
 obtain ⟨x4, o4, l4, e4⟩ : ∃ x o m, dN o3 l3 = (x, o, m) := ⟨_, _, _, rfl⟩
 obtain ⟨x5, o5, l5, e5⟩ : ∃ x o m, dN o4 l4 = (x, o, m) := ⟨_, _, _, rfl⟩
 obtain ⟨x6, o6, l6, e6⟩ : ∃ x o m, rB o5 l5 = (x, o, m) := ⟨_, _, _, rfl⟩
 obtain ⟨x7, o7, l7, e7⟩ : ∃ x o m, dN o6 l6 = (x, o, m) := ⟨_, _, _, rfl⟩
 obtain ⟨x8, o8, l8, e8⟩ : ∃ x o m, dN o7 l7 = (x, o, m) := ⟨_, _, _, rfl⟩
 obtain ⟨x9, o9, l9, e9⟩ : ∃ x o m, rT o8 l8 = (x, o, m) := ⟨_, _, _, rfl⟩
 have hs : ∃ s, s = dR k ok l := ⟨_, rfl⟩
 obtain ⟨s, hs⟩ := hs
 rw [← hs]
 unfold dR dA dB dO at hs
 rw [if_neg (by omega), if_neg (by omega)] at hs
 simp only [e1, e2, e3, e4, e5, e6, e7, e8, e9, if_neg (show ¬ k = 1 by omega), if_pos hk, if_pos (show k = 2 ∨ k = 3 by omega)] at hs
 have b1 : x1 < 4294967296 := by have := dN_lt ok l; rw [e1] at this; exact this
 have b2 : x2 < 18446744073709551616 := by have := rI_lt o1 l1; rw [e2] at this; exact this
 have b3 : x3 < 18446744073709551616 := by have := rI_lt o2 l2; rw [e3] at this; exact this
 have b4 : x4 < 4294967296 := by have := dN_lt o3 l3; rw [e4] at this; exact this
 have b5 : x5 < 4294967296 := by have := dN_lt o4 l4; rw [e5] at this; exact this
 obtain ⟨kn, hkn⟩ : ∃ kn, kn = i64n x6 := ⟨_, rfl⟩
 have b6 := i64n_in x6
 have g6 : IntKind.i64.wrap (x6 : Int) = kn := by rw [hkn]; rfl
 rw [← hkn] at b6 hs
 have b7 : x7 < 4294967296 := by have := dN_lt o6 l6; rw [e7] at this; exact this
 have g7 : IntKind.i64.wrap (x7 : Int) = (x7 : Int) := IntWalk.i64_in _ (by omega)
 have b8 : x8 < 4294967296 := by have := dN_lt o7 l7; rw [e8] at this; exact this
 have b9 := rT_in o8 l8
 rw [e9] at b9
 have i1 : ∀ x ∈ l1, x ∈ l := by have := dN_in ok l; rw [e1] at this; exact this
 have i2 : ∀ x ∈ l2, x ∈ l1 := by have := rI_in o1 l1; rw [e2] at this; exact this
 have i3 : ∀ x ∈ l3, x ∈ l2 := by have := rI_in o2 l2; rw [e3] at this; exact this
 have i4 : ∀ x ∈ l4, x ∈ l3 := by have := dN_in o3 l3; rw [e4] at this; exact this
 have i5 : ∀ x ∈ l5, x ∈ l4 := by have := dN_in o4 l4; rw [e5] at this; exact this
 have i6 : ∀ x ∈ l6, x ∈ l5 := by have := rB_in o5 l5; rw [e6] at this; exact this
 have i7 : ∀ x ∈ l7, x ∈ l6 := by have := dN_in o6 l6; rw [e7] at this; exact this
 have i8 : ∀ x ∈ l8, x ∈ l7 := by have := dN_in o7 l7; rw [e8] at this; exact this
 have HLX : Hid (∀ x ∈ l8, x < 256) := Lib.hid fun x hx => HLT.out x (i1 x (i2 x (i3 x (i4 x (i5 x (i6 x (i7 x (i8 x hx))))))))
 clear i1 i2 i3 i4 i5 i6 i7 i8
 have HTX := Lib.hid b9
 clear b9
 have HS := Lib.hid hs
 have HBD : Hid ((-9223372036854775808 ≤ k ∧ k ≤ 9223372036854775807) ∧ x1 < 4294967296 ∧ x2 < 18446744073709551616 ∧ x3 < 18446744073709551616 ∧ x4 < 4294967296 ∧ x5 < 4294967296 ∧ (-9223372036854775808 ≤ kn ∧ kn ≤ 9223372036854775807) ∧ x7 < 4294967296 ∧ x8 < 4294967296) := Lib.hid ⟨⟨hk1, hk2⟩, b1, b2, b3, b4, b5, b6, b7, b8⟩
 have H1 := Lib.hid (fun W (h : Qe W S Y g ok l) => qN_any W S Y g ok l h _ _ _ e1)
 have H2 := Lib.hid (fun W (h : Qe W S Y g o1 l1) => qI_any W S Y g o1 l1 h _ _ _ e2)
 have H3 := Lib.hid (fun W (h : Qe W S Y g o2 l2) => qI_any W S Y g o2 l2 h _ _ _ e3)
 have H4 := Lib.hid (fun W (h : Qe W S Y g o3 l3) => qN_any W S Y g o3 l3 h _ _ _ e4)
 have H5 := Lib.hid (fun W (h : Qe W S Y g o4 l4) => qN_any W S Y g o4 l4 h _ _ _ e5)
 have H6 := Lib.hid (fun W (h : Qe W S Y g o5 l5) => qB_any W S Y g o5 l5 h _ _ _ e6)
 have H7 := Lib.hid (fun W (h : Qe W S Y g o6 l6) => qN_any W S Y g o6 l6 h _ _ _ e7)
 have H8 := Lib.hid (fun W (h : Qe W S Y g o7 l7) => qN_any W S Y g o7 l7 h _ _ _ e8)
 have H9 := Lib.hid (fun W (h : Qe W S Y g o8 l8) => qT_any W S Y g o8 l8 h _ _ _ e9)
 have HBV := Lib.hid hb1
 have HDV := Lib.hid hb0
 have HRV := Lib.hid hq0
 have HG : Hid (w.heap.size ≤ W1.heap.size) := Lib.hid (by omega)
 have HNE : Hid (w.heap.size ≠ W1.heap.size ∧ W1.heap.size = w.heap.size + 1) := Lib.hid ⟨by omega, hz1⟩
 have c4 : (k == 4) = false := beq_false_of_ne (by omega)
 have n4 : (k != 4) = true := bne_iff_ne.2 (by omega)
 have c8 : (k == 8) = false := beq_false_of_ne (by omega)
 have n8 : (k != 8) = true := bne_iff_ne.2 (by omega)
 have c1 : (k == 1) = false := beq_false_of_ne (by omega)
 have n1 : (k != 1) = true := bne_iff_ne.2 (by omega)
 have c3 : (k == 3) = true := by rw [hk]; rfl
 have n3 : (k != 3) = false := by rw [hk]; rfl
 have c2 : (k == 2) = false := beq_false_of_ne (by omega)
 have n2 : (k != 2) = true := bne_iff_ne.2 (by omega)
 clear e1 e2 e3 e4 e5 e6 e7 e8 e9 b1 b2 b3 b4 b5 b6 b7 b8 h hS hY hs hk hk1 hk2 hz1 hz hb0 hb1 hq0 hkn
 unfold qp at H1 H2 H3 H4 H5 H6 H7 H8 H9 ⊢
 go_enter Tryz.func36, Tryz.ntmps36
 go_wp2_with (refine wpList_stB rfl 31 (.tmp 5) (.tmp 19) rfl W1.heap.size #[.int .i64 k, .int .u64 0, .int .u32 0, .int .u64 0, .int .u64 0, .int .u32 0, .int .u32 0, .int .i64 0, .int .i64 0, .int .u32 0, .slice none 0 0, .slice none 0 0, .slice none 0 0, .slice none 0 0, .int .u32 0] rfl rfl 31 #[.int .i64 0, .int .u64 0, .int .u32 0, .int .u64 0, .int .u64 0, .int .u32 0, .int .u32 0, .int .i64 0, .int .i64 0, .int .u32 0, .slice none 0 0, .slice none 0 0, .slice none 0 0, .slice none 0 0, .int .u32 0] HBV.out size31 rfl rfl ?_; intro W hbW hfW; have HB0 := Lib.hid hbW; have HD0 := Lib.hid (HDV.out.keep hfW (fun h => by have := HNE.out.1; exact this h)); have HR0 := Lib.hid (HRV.out.fr hfW (fun b hb => by have := HG.out; omega)); clear hbW hfW)
 with_reducible refine (H1.out _ HR0.out.rd).mono ?_
 rintro e w1 ⟨rfl, hq⟩
 have hb := HB0.out.keep hq.2 (HR0.out.not HG.out)
 have hd := HD0.out.keep hq.2 (HR0.out.not (Nat.le_refl _))
 have yc := hb.cell 2
 have yf := hb.frozen 2
 simp only [List.getElem?_toArray, List.getElem?_cons_zero, List.getElem?_cons_succ] at yc
 have HB1 : Hid (Blk (w1.setCell ⟨W1.heap.size, 2, none⟩ (.int .u32 (x1 : Int))) W1.heap.size 31 #[.int .i64 k, .int .u64 0, .int .u32 (x1 : Int), .int .u64 0, .int .u64 0, .int .u32 0, .int .u32 0, .int .i64 0, .int .i64 0, .int .u32 0, .slice none 0 0, .slice none 0 0, .slice none 0 0, .slice none 0 0, .int .u32 0]) := Lib.hid (hb.set_ 2 (.int .u32 (x1 : Int)))
 have HD1 := Lib.hid (hd.far (p := ⟨W1.heap.size, 2, none⟩) HNE.out.1 (.int .u32 (x1 : Int)))
 have HR1 := Lib.hid ((HR0.out.call hq).set HG.out 2 (.int .u32 (x1 : Int)))
 clear hq hb hd
 go_wp2_with fail
 with_reducible refine (H2.out _ HR1.out.rd).mono ?_
 rintro e w2 ⟨rfl, hq⟩
 have hb := HB1.out.keep hq.2 (HR1.out.not HG.out)
 have hd := HD1.out.keep hq.2 (HR1.out.not (Nat.le_refl _))
 have yc := hb.cell 3
 have yf := hb.frozen 3
 simp only [List.getElem?_toArray, List.getElem?_cons_zero, List.getElem?_cons_succ] at yc
 have HB2 : Hid (Blk (w2.setCell ⟨W1.heap.size, 3, none⟩ (.int .u64 (x2 : Int))) W1.heap.size 31 #[.int .i64 k, .int .u64 0, .int .u32 (x1 : Int), .int .u64 (x2 : Int), .int .u64 0, .int .u32 0, .int .u32 0, .int .i64 0, .int .i64 0, .int .u32 0, .slice none 0 0, .slice none 0 0, .slice none 0 0, .slice none 0 0, .int .u32 0]) := Lib.hid (hb.set_ 3 (.int .u64 (x2 : Int)))
 have HD2 := Lib.hid (hd.far (p := ⟨W1.heap.size, 3, none⟩) HNE.out.1 (.int .u64 (x2 : Int)))
 have HR2 := Lib.hid ((HR1.out.call hq).set HG.out 3 (.int .u64 (x2 : Int)))
 clear hq hb hd
 go_wp2_with fail
 with_reducible refine (H3.out _ HR2.out.rd).mono ?_
 rintro e w3 ⟨rfl, hq⟩
 have hb := HB2.out.keep hq.2 (HR2.out.not HG.out)
 have hd := HD2.out.keep hq.2 (HR2.out.not (Nat.le_refl _))
 have yc := hb.cell 4
 have yf := hb.frozen 4
 simp only [List.getElem?_toArray, List.getElem?_cons_zero, List.getElem?_cons_succ] at yc
 have HB3 : Hid (Blk (w3.setCell ⟨W1.heap.size, 4, none⟩ (.int .u64 (x3 : Int))) W1.heap.size 31 #[.int .i64 k, .int .u64 0, .int .u32 (x1 : Int), .int .u64 (x2 : Int), .int .u64 (x3 : Int), .int .u32 0, .int .u32 0, .int .i64 0, .int .i64 0, .int .u32 0, .slice none 0 0, .slice none 0 0, .slice none 0 0, .slice none 0 0, .int .u32 0]) := Lib.hid (hb.set_ 4 (.int .u64 (x3 : Int)))
 have HD3 := Lib.hid (hd.far (p := ⟨W1.heap.size, 4, none⟩) HNE.out.1 (.int .u64 (x3 : Int)))
 have HR3 := Lib.hid ((HR2.out.call hq).set HG.out 4 (.int .u64 (x3 : Int)))
 clear hq hb hd
 go_wp2_with fail
 with_reducible refine (H4.out _ HR3.out.rd).mono ?_
 rintro e w4 ⟨rfl, hq⟩
 have hb := HB3.out.keep hq.2 (HR3.out.not HG.out)
 have hd := HD3.out.keep hq.2 (HR3.out.not (Nat.le_refl _))
 have yc := hb.cell 5
 have yf := hb.frozen 5
 simp only [List.getElem?_toArray, List.getElem?_cons_zero, List.getElem?_cons_succ] at yc
 have HB4 : Hid (Blk (w4.setCell ⟨W1.heap.size, 5, none⟩ (.int .u32 (x4 : Int))) W1.heap.size 31 #[.int .i64 k, .int .u64 0, .int .u32 (x1 : Int), .int .u64 (x2 : Int), .int .u64 (x3 : Int), .int .u32 (x4 : Int), .int .u32 0, .int .i64 0, .int .i64 0, .int .u32 0, .slice none 0 0, .slice none 0 0, .slice none 0 0, .slice none 0 0, .int .u32 0]) := Lib.hid (hb.set_ 5 (.int .u32 (x4 : Int)))
 have HD4 := Lib.hid (hd.far (p := ⟨W1.heap.size, 5, none⟩) HNE.out.1 (.int .u32 (x4 : Int)))
 have HR4 := Lib.hid ((HR3.out.call hq).set HG.out 5 (.int .u32 (x4 : Int)))
 clear hq hb hd
 go_wp2_with fail
 with_reducible refine (H5.out _ HR4.out.rd).mono ?_
 rintro e w5 ⟨rfl, hq⟩
 have hb := HB4.out.keep hq.2 (HR4.out.not HG.out)
 have hd := HD4.out.keep hq.2 (HR4.out.not (Nat.le_refl _))
 have yc := hb.cell 6
 have yf := hb.frozen 6
 simp only [List.getElem?_toArray, List.getElem?_cons_zero, List.getElem?_cons_succ] at yc
 have HB5 : Hid (Blk (w5.setCell ⟨W1.heap.size, 6, none⟩ (.int .u32 (x5 : Int))) W1.heap.size 31 #[.int .i64 k, .int .u64 0, .int .u32 (x1 : Int), .int .u64 (x2 : Int), .int .u64 (x3 : Int), .int .u32 (x4 : Int), .int .u32 (x5 : Int), .int .i64 0, .int .i64 0, .int .u32 0, .slice none 0 0, .slice none 0 0, .slice none 0 0, .slice none 0 0, .int .u32 0]) := Lib.hid (hb.set_ 6 (.int .u32 (x5 : Int)))
 have HD5 := Lib.hid (hd.far (p := ⟨W1.heap.size, 6, none⟩) HNE.out.1 (.int .u32 (x5 : Int)))
 have HR5 := Lib.hid ((HR4.out.call hq).set HG.out 6 (.int .u32 (x5 : Int)))
 clear hq hb hd
 go_wp2_with fail
 with_reducible refine (H6.out _ HR5.out.rd).mono ?_
 rintro e w6 ⟨rfl, hq⟩
 have hb := HB5.out.keep hq.2 (HR5.out.not HG.out)
 have hd := HD5.out.keep hq.2 (HR5.out.not (Nat.le_refl _))
 have yc := hb.cell 7
 have yf := hb.frozen 7
 simp only [List.getElem?_toArray, List.getElem?_cons_zero, List.getElem?_cons_succ] at yc
 have HB6 : Hid (Blk (w6.setCell ⟨W1.heap.size, 7, none⟩ (.int .i64 kn)) W1.heap.size 31 #[.int .i64 k, .int .u64 0, .int .u32 (x1 : Int), .int .u64 (x2 : Int), .int .u64 (x3 : Int), .int .u32 (x4 : Int), .int .u32 (x5 : Int), .int .i64 kn, .int .i64 0, .int .u32 0, .slice none 0 0, .slice none 0 0, .slice none 0 0, .slice none 0 0, .int .u32 0]) := Lib.hid (hb.set_ 7 (.int .i64 kn))
 have HD6 := Lib.hid (hd.far (p := ⟨W1.heap.size, 7, none⟩) HNE.out.1 (.int .i64 kn))
 have HR6 := Lib.hid ((HR5.out.call hq).set HG.out 7 (.int .i64 kn))
 clear hq hb hd
 go_wp2_with fail
 with_reducible refine (H7.out _ HR6.out.rd).mono ?_
 rintro e w7 ⟨rfl, hq⟩
 have hb := HB6.out.keep hq.2 (HR6.out.not HG.out)
 have hd := HD6.out.keep hq.2 (HR6.out.not (Nat.le_refl _))
 have yc := hb.cell 8
 have yf := hb.frozen 8
 simp only [List.getElem?_toArray, List.getElem?_cons_zero, List.getElem?_cons_succ] at yc
 have HB7 : Hid (Blk (w7.setCell ⟨W1.heap.size, 8, none⟩ (.int .i64 (x7 : Int))) W1.heap.size 31 #[.int .i64 k, .int .u64 0, .int .u32 (x1 : Int), .int .u64 (x2 : Int), .int .u64 (x3 : Int), .int .u32 (x4 : Int), .int .u32 (x5 : Int), .int .i64 kn, .int .i64 (x7 : Int), .int .u32 0, .slice none 0 0, .slice none 0 0, .slice none 0 0, .slice none 0 0, .int .u32 0]) := Lib.hid (hb.set_ 8 (.int .i64 (x7 : Int)))
 have HD7 := Lib.hid (hd.far (p := ⟨W1.heap.size, 8, none⟩) HNE.out.1 (.int .i64 (x7 : Int)))
 have HR7 := Lib.hid ((HR6.out.call hq).set HG.out 8 (.int .i64 (x7 : Int)))
 clear hq hb hd
 go_wp2_with fail
 with_reducible refine (H8.out _ HR7.out.rd).mono ?_
 rintro e w8 ⟨rfl, hq⟩
 have hb := HB7.out.keep hq.2 (HR7.out.not HG.out)
 have hd := HD7.out.keep hq.2 (HR7.out.not (Nat.le_refl _))
 have yc := hb.cell 9
 have yf := hb.frozen 9
 simp only [List.getElem?_toArray, List.getElem?_cons_zero, List.getElem?_cons_succ] at yc
 have HB8 : Hid (Blk (w8.setCell ⟨W1.heap.size, 9, none⟩ (.int .u32 (x8 : Int))) W1.heap.size 31 #[.int .i64 k, .int .u64 0, .int .u32 (x1 : Int), .int .u64 (x2 : Int), .int .u64 (x3 : Int), .int .u32 (x4 : Int), .int .u32 (x5 : Int), .int .i64 kn, .int .i64 (x7 : Int), .int .u32 (x8 : Int), .slice none 0 0, .slice none 0 0, .slice none 0 0, .slice none 0 0, .int .u32 0]) := Lib.hid (hb.set_ 9 (.int .u32 (x8 : Int)))
 have HD8 := Lib.hid (hd.far (p := ⟨W1.heap.size, 9, none⟩) HNE.out.1 (.int .u32 (x8 : Int)))
 have HR8 := Lib.hid ((HR7.out.call hq).set HG.out 9 (.int .u32 (x8 : Int)))
 clear hq hb hd
 go_wp2_with fail
 with_reducible refine (H9.out _ HR8.out.rd).mono ?_
 rintro e w9 ⟨rfl, hq⟩
 have hb := HB8.out.keep hq.2 (HR8.out.not HG.out)
 have hd := HD8.out.keep hq.2 (HR8.out.not (Nat.le_refl _))
 obtain ⟨A, c, wc, hcv, hmc, hA, hrb, hbl⟩ := run_cvn w9 x9 (fun x hx => HLX.out x (HTX.out.2 x hx))
 obtain ⟨m, hm⟩ : ∃ m, m = x9.length := ⟨_, rfl⟩
 rw [← hm] at hcv hmc hrb
 have hfb := Fr.of_below hbl No
 have hb2 := hb.keep hfb (fun hn => hn)
 have hd2 := hd.keep hfb (fun hn => hn)
 have yc := hb2.cell 10
 have yf := hb2.frozen 10
 simp only [List.getElem?_toArray, List.getElem?_cons_zero, List.getElem?_cons_succ] at yc
 have HB9 : Hid (Blk (wc.setCell ⟨W1.heap.size, 10, none⟩ (.slice A m c)) W1.heap.size 31 #[.int .i64 k, .int .u64 0, .int .u32 (x1 : Int), .int .u64 (x2 : Int), .int .u64 (x3 : Int), .int .u32 (x4 : Int), .int .u32 (x5 : Int), .int .i64 kn, .int .i64 (x7 : Int), .int .u32 (x8 : Int), .slice A m c, .slice none 0 0, .slice none 0 0, .slice none 0 0, .int .u32 0]) := Lib.hid (hb2.set_ 10 (.slice A m c))
 have HD9 := Lib.hid (hd2.far (p := ⟨W1.heap.size, 10, none⟩) HNE.out.1 (.slice A m c))
 have HR9 := Lib.hid (((HR8.out.call hq).fr hfb (fun _ hn => hn.elim)).set HG.out 10 (.slice A m c))
 have HRB := Lib.hid (hrb.far (p := ⟨W1.heap.size, 10, none⟩) (by have := hb.lt; show ¬ w9.heap.size ≤ W1.heap.size; omega) (.slice A m c))
 have HCM := Lib.hid (And.intro hmc (And.intro hA hm))
 have HW4 : Hid (W1.heap.size < w9.heap.size) := Lib.hid hb.lt
 clear hq hb hd hb2 hd2 hfb hmc hA hm hrb hbl
 go_wp2_with (first
  | (refine wpList_ldB rfl 31 (.tmp 5) rfl W1.heap.size rfl 31 #[.int .i64 k, .int .u64 0, .int .u32 (x1 : Int), .int .u64 (x2 : Int), .int .u64 (x3 : Int), .int .u32 (x4 : Int), .int .u32 (x5 : Int), .int .i64 kn, .int .i64 (x7 : Int), .int .u32 (x8 : Int), .slice A m c, .slice none 0 0, .slice none 0 0, .slice none 0 0, .int .u32 0] _ HB9.out Tryz.underlying31 rfl size31 ?_)
  | (refine wpList_stB rfl 31 (.tmp 4) (.tmp 199) rfl w.heap.size #[.int .i64 k, .int .u64 0, .int .u32 (x1 : Int), .int .u64 (x2 : Int), .int .u64 (x3 : Int), .int .u32 (x4 : Int), .int .u32 (x5 : Int), .int .i64 kn, .int .i64 (x7 : Int), .int .u32 (x8 : Int), .slice A m c, .slice none 0 0, .slice none 0 0, .slice none 0 0, .int .u32 0] rfl rfl 31 #[.int .i64 0, .int .u64 0, .int .u32 0, .int .u64 0, .int .u64 0, .int .u32 0, .int .u32 0, .int .i64 0, .int .i64 0, .int .u32 0, .slice none 0 0, .slice none 0 0, .slice none 0 0, .slice none 0 0, .int .u32 0] HD9.out size31 rfl rfl ?_
     intro wz hbz hfz
     have HBZ := Lib.hid hbz
     have HFZ := Lib.hid hfz
     clear hbz hfz))
 refine bodyPost_ret (results_cell_row Tryz.results36 _ _ w.heap.size 31 _ (0, 0) _ rfl HBZ.out Tryz.underlying31 rfl size31) rfl ?_
 have hrz := HR9.out.fr HFZ.out (fun b hb => by omega)
 rw [HS.out]
 refine ⟨⟨k, 0, x1, x2, x3, x4, x5, ⟨kn, (x7 : Int), x8, A, m, c, x9⟩, none, 0, 0, [], none, 0, 0, [], none, 0, 0, [], 0⟩, rfl, rfl, ?_, hrz.rd, hrz.2.2.2⟩
 have hbd := HBD.out
 exact ⟨hbd.1.1, hbd.1.2, (by show (0 : Nat) < _; decide), hbd.2.1, hbd.2.2.1, hbd.2.2.2.1, hbd.2.2.2.2.1, hbd.2.2.2.2.2.1, ⟨(HRB.out.keep HFZ.out (fun b hb he => by have := HW4.out; have := HNE.out.2; omega)).mono (fun b _ hb => by have := HW4.out; have := HNE.out.2; omega), hbd.2.2.2.2.2.2.1.1, hbd.2.2.2.2.2.2.1.2, (by show (-9223372036854775808 : Int) ≤ ((x7 : Int)); have := hbd.2.2.2.2.2.2.2.1; omega), (by show (((x7 : Int)) : Int) ≤ 9223372036854775807; have := hbd.2.2.2.2.2.2.2.1; omega), hbd.2.2.2.2.2.2.2.2, HCM.out.1, (by have := HTX.out.1; have := HCM.out.2.2; show m ≤ 9223372036854775807; omega), HCM.out.2.1⟩, ⟨rfl, (fun x hx => by cases hx), Nat.zero_le _, fun h => absurd h (Nat.lt_irrefl 0)⟩, ⟨rfl, (fun x hx => by cases hx), Nat.zero_le _, fun h => absurd h (Nat.lt_irrefl 0)⟩, ⟨rfl, (fun x hx => by cases hx), Nat.zero_le _, fun h => absurd h (Nat.lt_irrefl 0)⟩, (by show (0 : Nat) < _; decide)⟩
end Go.Proofs.YtdhgbkibbileiaaGreat
