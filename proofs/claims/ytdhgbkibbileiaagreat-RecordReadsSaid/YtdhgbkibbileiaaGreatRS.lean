/-
RS
-/
import Derived.Test.YtdhgbkibbileiaaGreatRR
set_option maxRecDepth 100000
namespace Go.Proofs.YtdhgbkibbileiaaGreat
open Go.RowKit
theorem RG.blocks {W wr : World} {S : Nat → Prop} {p : Option Nat} {ok : Bool} {l : List Nat} (h : RG W S p wr ok l) : ∀ b, S b → b < wr.heap.size := fun b hb => Nat.lt_of_lt_of_le (h.2.1 b hb) h.size
theorem rI_le (ok : Bool) (l : List Nat) : (rI ok l).2.2.length ≤ l.length := by
 show (leftO ok l _).length ≤ _
 unfold leftO
 split
 ·simp
 ·exact Nat.le_refl _
theorem rR_le (ok : Bool) (l : List Nat) (n : Int) : (rR ok l n).2.2.length ≤ l.length := by
 show (leftO ok l _).length ≤ _
 unfold leftO
 split
 ·simp
 ·exact Nat.le_refl _
theorem rR_ok (ok : Bool) (l : List Nat) (n : Int) (h : (rR ok l n).2.1 = true) : ok = true := by
 cases ok with
 | false => simp [rR, okO] at h
 | true => rfl
theorem rC_zero (ok : Bool) (l : List Nat) (h : (rI ok l).1 = 0) : rC ok l = (cz, (rI ok l).2) := by simp only [rC, h, if_true]
theorem rC_pos (ok : Bool) (l : List Nat) (h : (rI ok l).1 ≠ 0) : rC ok l = (⟨true, n32 (rI (rI ok l).2.1 (rI ok l).2.2).1, (rR (rI (rI ok l).2.1 (rI ok l).2.2).2.1 (rI (rI ok l).2.1 (rI ok l).2.2).2.2 (i64n (rI ok l).1)).1⟩, (rR (rI (rI ok l).2.1 (rI ok l).2.2).2.1 (rI (rI ok l).2.1 (rI ok l).2.2).2.2 (i64n (rI ok l).1)).2) := by simp only [rC, if_neg h]
theorem rC_less (ok : Bool) (l : List Nat) (h : (rC ok l).2.1 = true) : (rC ok l).2.2.length < l.length := by
 by_cases h0 : (rI ok l).1 = 0
 ·rw [rC_zero ok l h0] at h ⊢
  exact rI_less ok l h
 ·rw [rC_pos ok l h0] at h ⊢
  have k2 := rR_ok _ _ _ h
  have l2 := rR_le (rI (rI ok l).2.1 (rI ok l).2.2).2.1 (rI (rI ok l).2.1 (rI ok l).2.2).2.2 (i64n (rI ok l).1)
  have l1 := rI_less _ _ k2
  have l0 := rI_less _ _ (rI_ok _ _ k2)
  show (rR (rI (rI ok l).2.1 (rI ok l).2.2).2.1 (rI (rI ok l).2.1 (rI ok l).2.2).2.2 (i64n (rI ok l).1)).2.2.length < _
  omega
theorem rC_le (ok : Bool) (l : List Nat) : (rC ok l).2.2.length ≤ l.length := by
 by_cases h0 : (rI ok l).1 = 0
 ·rw [rC_zero ok l h0]
  exact rI_le ok l
 ·rw [rC_pos ok l h0]
  have l2 := rR_le (rI (rI ok l).2.1 (rI ok l).2.2).2.1 (rI (rI ok l).2.1 (rI ok l).2.2).2.2 (i64n (rI ok l).1)
  have l1 := rI_le (rI ok l).2.1 (rI ok l).2.2
  have l0 := rI_le ok l
  show (rR (rI (rI ok l).2.1 (rI ok l).2.2).2.1 (rI (rI ok l).2.1 (rI ok l).2.2).2.2 (i64n (rI ok l).1)).2.2.length ≤ _
  omega
def rLC : Nat → Bool → List Nat → List CE × Bool × List Nat
 | 0, ok, l => ([], ok, l)
 | n + 1, ok, l => if ok then ((rC ok l).1 :: (rLC n (rC ok l).2.1 (rC ok l).2.2).1, (rLC n (rC ok l).2.1 (rC ok l).2.2).2) else ([], ok, l)
theorem rLC_no (n : Nat) (l : List Nat) : rLC n false l = ([], false, l) := by cases n <;> simp [rLC]
def rLCs (ok : Bool) (l : List Nat) : List CE × Bool × List Nat := rLC (rI ok l).1 (rI ok l).2.1 (rI ok l).2.2
theorem rLC_le (n : Nat) (ok : Bool) (l : List Nat) : (rLC n ok l).2.2.length ≤ l.length := by
 induction n generalizing ok l with
 | zero => exact Nat.le_refl _
 | succ n ih =>
   cases ok with
   | false => rw [rLC_no]; exact Nat.le_refl _
   | true =>
     have h1 := ih (rC true l).2.1 (rC true l).2.2
     have h2 := rC_le true l
     simp only [rLC, if_true]
     omega
theorem rLCs_le (ok : Bool) (l : List Nat) : (rLCs ok l).2.2.length ≤ l.length := Nat.le_trans (rLC_le _ _ _) (rI_le ok l)
theorem rLC_ok (n : Nat) (ok : Bool) (l : List Nat) (h : (rLC n ok l).2.1 = true) : ok = true := by
 cases ok with
 | false => rw [rLC_no] at h; exact h
 | true => rfl
structure IE where
 t : Nat
 k : Int
 s : Nat
 x : Nat
 es : List CE
deriving DecidableEq
def IV.e (x : IV) : IE := ⟨x.t, x.p.k, x.p.s, x.p.x, x.p.es⟩
def rJ (ok : Bool) (l : List Nat) : IE × Bool × List Nat :=
 let a := rI ok l
 let b := rB a.2.1 a.2.2
 let c := rI b.2.1 b.2.2
 let d := rLCs c.2.1 c.2.2
 (⟨n32 a.1, i64n b.1, 0, n32 c.1, d.1⟩, d.2)
theorem rJ_le (ok : Bool) (l : List Nat) : (rJ ok l).2.2.length ≤ l.length := by
 have h1 := rI_le ok l
 have h2 := rB_le (rI ok l).2.1 (rI ok l).2.2
 have h3 := rI_le (rB (rI ok l).2.1 (rI ok l).2.2).2.1 (rB (rI ok l).2.1 (rI ok l).2.2).2.2
 have h4 := rLCs_le (rI (rB (rI ok l).2.1 (rI ok l).2.2).2.1 (rB (rI ok l).2.1 (rI ok l).2.2).2.2).2.1 (rI (rB (rI ok l).2.1 (rI ok l).2.2).2.1 (rB (rI ok l).2.1 (rI ok l).2.2).2.2).2.2
 show (rLCs (rI (rB (rI ok l).2.1 (rI ok l).2.2).2.1 (rB (rI ok l).2.1 (rI ok l).2.2).2.2).2.1 (rI (rB (rI ok l).2.1 (rI ok l).2.2).2.1 (rB (rI ok l).2.1 (rI ok l).2.2).2.2).2.2).2.2.length ≤ _
 omega
theorem rJ_less (ok : Bool) (l : List Nat) (h : (rJ ok l).2.1 = true) : (rJ ok l).2.2.length < l.length := by
 have k4 : (rLCs (rI (rB (rI ok l).2.1 (rI ok l).2.2).2.1 (rB (rI ok l).2.1 (rI ok l).2.2).2.2).2.1 (rI (rB (rI ok l).2.1 (rI ok l).2.2).2.1 (rB (rI ok l).2.1 (rI ok l).2.2).2.2).2.2).2.1 = true := h
 have k3 := rI_ok _ _ (rLC_ok _ _ _ k4)
 have k2 := rI_ok _ _ k3
 have k1 := rB_ok _ _ k2
 have h1 := rI_less ok l k1
 have h2 := rB_le (rI ok l).2.1 (rI ok l).2.2
 have h3 := rI_le (rB (rI ok l).2.1 (rI ok l).2.2).2.1 (rB (rI ok l).2.1 (rI ok l).2.2).2.2
 have h4 := rLCs_le (rI (rB (rI ok l).2.1 (rI ok l).2.2).2.1 (rB (rI ok l).2.1 (rI ok l).2.2).2.2).2.1 (rI (rB (rI ok l).2.1 (rI ok l).2.2).2.1 (rB (rI ok l).2.1 (rI ok l).2.2).2.2).2.2
 show (rLCs (rI (rB (rI ok l).2.1 (rI ok l).2.2).2.1 (rB (rI ok l).2.1 (rI ok l).2.2).2.2).2.1 (rI (rB (rI ok l).2.1 (rI ok l).2.2).2.1 (rB (rI ok l).2.1 (rI ok l).2.2).2.2).2.2).2.2.length < _
 omega
def rLJ : Nat → Bool → List Nat → List IE × Bool × List Nat
 | 0, ok, l => ([], ok, l)
 | n + 1, ok, l => if ok then ((rJ ok l).1 :: (rLJ n (rJ ok l).2.1 (rJ ok l).2.2).1, (rLJ n (rJ ok l).2.1 (rJ ok l).2.2).2) else ([], ok, l)
theorem rLJ_no (n : Nat) (l : List Nat) : rLJ n false l = ([], false, l) := by cases n <;> simp [rLJ]
def rLJs (ok : Bool) (l : List Nat) : List IE × Bool × List Nat := rLJ (rI ok l).1 (rI ok l).2.1 (rI ok l).2.2
def Beyond (w : World) (v : Value) : Nat → Prop := fun b => w.heap.size ≤ b ∧ v.ownBlock ≠ some b
def LRCV (w : World) (S : Nat → Prop) (p : Option Nat) (s : List CE × Bool × List Nat) (e : Ending) (w' : World) : Prop :=
 ∃ v k xs, e = .returned v ∧ OwC w' (fun b => w.heap.size ≤ b) (fun b => Beyond w v b ∧ Zf w' b) v k xs ∧ xs.map CV.e = s.1 ∧ k ≤ 20001 ∧ Rd w' S p s.2.1 s.2.2 ∧ Fr w w' S
set_option maxHeartbeats 2000000 in
theorem readListCV_any (w : World) (S : Nat → Prop) (p : Option Nat) (ok : Bool) (l : List Nat) (h : Rd w S p ok l) (hS : ∀ b, S b → b < w.heap.size) (hl : l.length ≤ 20000) :
  Calls Tryz.prog 117 #[ptr p, .func (.func 118) #[] #[]] w (LRCV w S p (rLCs ok l)) := by
 obtain ⟨x1, o1, l1, e1⟩ : ∃ x1 o1 l1, rI ok l = (x1, o1, l1) := ⟨_, _, _, rfl⟩
 have hl1 : l1.length ≤ 20000 := by
  have h2 := rI_le ok l
  rw [e1] at h2
  exact Nat.le_trans h2 hl
 have hx1 : x1 < 18446744073709551616 := by
  have : (rI ok l).1 < 18446744073709551616 := front_val_lt ok l
  rw [e1] at this
  exact this
 obtain ⟨s, hs⟩ : ∃ s, s = rLCs ok l := ⟨_, rfl⟩
 rw [← hs]
 have hs1 : s = rLC x1 o1 l1 := by rw [hs]; unfold rLCs; rw [e1]
 have H1 := Lib.hid (fun W (h : Rd W S p ok l) => rI_any W S p ok l h _ _ _ e1)
 have HR0 := Lib.hid (RG.start h hS)
 have HS := Lib.hid hs1
 have HL := Lib.hid hl1
 have HX1 := Lib.hid hx1
 clear h hS hs hs1 hl hl1 hx1 e1
 go_enter Tryz.func117, Tryz.ntmps117
 go_wp2_with fail
 with_reducible refine (H1.out _ HR0.out.rd).mono ?_
 rintro e w1 ⟨rfl, hr, hf⟩
 have HR1 := Lib.hid (HR0.out.call hr hf)
 clear hr hf
 go_wp2_with fail
 go_loopw [5, 6] (fun v i wr => ∃ (q k : Nat) (xs : List CV) (o : Bool) (m : List Nat), q ≤ x1 ∧ i = .int .u64 (q : Int) ∧ OwC wr (fun b => w.heap.size ≤ b) (fun b => Beyond w v b ∧ Zf wr b) v k xs ∧ RG w S p wr o m ∧ s = (xs.map CV.e ++ (rLC q o m).1, (rLC q o m).2) ∧ k ≤ 20001 ∧ m.length ≤ 20000 ∧ (o = true → k + m.length ≤ 20000)) (fun _ i _ => (intOf i).toNat)
 case atStart => exact ⟨x1, 0, [], o1, l1, Nat.le_refl _, rfl, OwC.nil_ _ _ _, HR1.out, HS.out, by omega, HL.out, fun _ => by have := HL.out; omega⟩
 case round =>
  obtain ⟨q, k, xs, o, m, hq, rfl, how, hrg, hsm, hk, hm20, hkm⟩ := hrel
  have HOW := Lib.hid how
  have HRG := Lib.hid hrg
  have HSM := Lib.hid hsm
  have HK := Lib.hid (And.intro hk (And.intro hkm hm20))
  have HE := Lib.hid (err_any wr S p o m hrg.rd)
  have HQ : Hid (q < 18446744073709551616) := Lib.hid (by have := HX1.out; omega)
  have HQ1 := Lib.hid hq
  obtain ⟨vA, vc, rfl, _, _, _, _⟩ := how.reads (by omega)
  clear how hrg hsm hk hkm hq hm20
  by_cases h0 : q = 0
  ·have d1 : decide ((q : Int) > 0) = false := decide_eq_false (by omega)
   have d2 : decide (0 < q) = false := decide_eq_false (by omega)
   have H0 := Lib.hid h0
   clear h0
   go_wp2_with fail
   go_ret
   unfold LRCV
   rw [HSM.out, H0.out]
   simp only [rLC, List.append_nil]
   exact ⟨_, _, _, rfl, HOW.out, rfl, HK.out.1, HRG.out.rd, HRG.out.2.2⟩
  ·have d1 : decide ((q : Int) > 0) = true := decide_eq_true (by omega)
   have d2 : decide (0 < q) = true := decide_eq_true (by omega)
   cases o with
   | false =>
     simp only [errOf] at HE
     go_wp2_with fail
     with_reducible refine HE.out.mono ?_
     rintro e w2 ⟨rfl, rfl⟩
     go_wp2_with fail
     go_ret
     unfold LRCV
     rw [HSM.out, rLC_no]
     simp only [List.append_nil]
     exact ⟨_, _, _, rfl, HOW.out, rfl, HK.out.1, HRG.out.rd, HRG.out.2.2⟩
   | true =>
     simp only [errOf] at HE
     obtain ⟨q', rfl⟩ : ∃ q', q = q' + 1 := ⟨q - 1, by omega⟩
     have hw1 : IntKind.u64.wrap (q' : Int) = (q' : Int) := by have := HQ.out; rw [IntKind.wrap_u64]; omega
     have HKM : Hid (k + m.length ≤ 20000) := Lib.hid (HK.out.2.1 rfl)
     have HQX : Hid (q' ≤ x1) := Lib.hid (by have := HQ1.out; omega)
     have HI := Lib.hid (readCell_any wr S p true m HRG.out.rd (fun b hb => Nat.lt_of_lt_of_le (HRG.out.2.1 b hb) HRG.out.size))
     have HLS : Hid ((rC true m).2.1 = true → (rC true m).2.2.length < m.length) := Lib.hid (fun h => rC_less true m h)
     have HLE : Hid ((rC true m).2.2.length ≤ 20000) := Lib.hid (Nat.le_trans (rC_le true m) HK.out.2.2)
     have HSM2 : Hid (s = (xs.map CV.e ++ [(rC true m).1] ++ (rLC q' (rC true m).2.1 (rC true m).2.2).1, (rLC q' (rC true m).2.1 (rC true m).2.2).2)) := Lib.hid (by rw [HSM.out]; simp only [rLC, if_true, List.append_assoc, List.singleton_append])
     clear h0
     go_wp2_with fail
     with_reducible refine HE.out.mono ?_
     rintro e w2 ⟨rfl, rfl⟩
     go_wp2_with fail
     with_reducible refine HI.out.mono ?_
     unfold CellR
     rintro e w3 ⟨y, rfl, hye, hyi, _, hr, hf⟩
     have HYE := Lib.hid hye
     have hsz3 := hf.size
     have hown3 : ∀ b, wr.heap.size ≤ b → Beyond w (.slice vA k vc) b := fun b hb => ⟨Nat.le_trans HRG.out.size hb, fun he => by have := (HOW.out.1.lt b he).2; omega⟩
     have HYI : Hid (CV.In w3 (fun b => Beyond w (.slice vA k vc) b ∧ Zf w3 b) y) := Lib.hid (hyi.mono fun b _ hb => ⟨hown3 b hb.1, hb.2⟩)
     have HO3 := Lib.hid ((HOW.out.up hf (fun b hb => HRG.out.not hb) (fun b hb => HRG.out.not hb.1) (fun k hk h => h.2 hk)).alloc (.cells #[.bool y.u, .int .u32 (y.k : Int), .slice y.A y.m y.c] 55))
     have HR3 := Lib.hid ((HRG.out.call hr hf).alloc (.cells #[.bool y.u, .int .u32 (y.k : Int), .slice y.A y.m y.c] 55))
     have HKB : Hid ((k + 1) * 32 ≤ 140737488355328) := Lib.hid (by have := HK.out.1; omega)
     have HC3 : Hid (CR (w3.alloc (.cells #[.bool y.u, .int .u32 (y.k : Int), .slice y.A y.m y.c] 55)) All (fun b => Beyond w (.slice vA k vc) b ∧ Zf w3 b) (some ⟨w3.heap.size, 0, none⟩) 1 [y]) := Lib.hid (CR.one w3 All _ y _ rfl trivial HYI.out)
     simp only [CV.agg]
     clear hr hf hye hyi hsz3 hown3
     go_wp2_with (at_builtin; go_must (refine wpList_appC rfl (.tmp 18) (.tmp 22) rfl _ k xs rfl HO3.out (some ⟨w3.heap.size, 0, none⟩) 1 1 [y] rfl HC3.out HKB.out ?_); intro v1 w4 hown hgrow; have HO4 := Lib.hid hown; have HG4 := Lib.hid hgrow; clear hown hgrow)
     go_roundw
     case rel =>
      refine ⟨q', k + 1, xs ++ [y], (rC true m).2.1, (rC true m).2.2, HQX.out, by go_num, HO4.out.mono (fun b _ hb => ?_) (fun b _ hb => ⟨⟨hb.1.1.1, fun he => HO4.out.2.2.2 b he hb⟩, (hb.1.2.keep ((Fr.refl w3 No).alloc _) (fun hn => hn)).grown HG4.out hb.1.1.2⟩) (fun b hb hn => hn.1.2 hb), HR3.out.grown HG4.out (fun q hq => HO3.out.2.2.1 q hq), ?_, ?_, HLE.out, fun ho => ?_⟩
      ·rcases hb with hb | hb
       ·exact hb
       ·exact Nat.le_trans HR3.out.size hb
      ·rw [HSM2.out, List.map_append, ← HYE.out]; rfl
      ·have := HKM.out; omega
      ·have := HKM.out; have := HLS.out ho; omega
     case measure => simp [intOf]
def ImR (w : World) (S : Nat → Prop) (p : Option Nat) (s : IE × Bool × List Nat) (e : Ending) (w' : World) : Prop :=
 ∃ x : IV, e = .returned x.agg ∧ x.e = s.1 ∧ x.In w' (fun b => w.heap.size ≤ b ∧ Zf w' b) ∧ x.p.n ≤ 20001 ∧ Rd w' S p s.2.1 s.2.2 ∧ Fr w w' S
set_option maxHeartbeats 2000000 in
theorem readImage_any (w : World) (S : Nat → Prop) (p : Option Nat) (ok : Bool) (l : List Nat) (h : Rd w S p ok l) (hS : ∀ b, S b → b < w.heap.size) (hl : l.length ≤ 20000) :
  Calls Tryz.prog 83 #[ptr p] w (ImR w S p (rJ ok l)) := by
 obtain ⟨x1, o1, l1, e1⟩ : ∃ x1 o1 l1, rI ok l = (x1, o1, l1) := ⟨_, _, _, rfl⟩
 obtain ⟨x2, o2, l2, e2⟩ : ∃ x2 o2 l2, rB o1 l1 = (x2, o2, l2) := ⟨_, _, _, rfl⟩
 obtain ⟨x3, o3, l3, e3⟩ : ∃ x3 o3 l3, rI o2 l2 = (x3, o3, l3) := ⟨_, _, _, rfl⟩
 obtain ⟨xs4, o4, l4, e4⟩ : ∃ xs4 o4 l4, rLCs o3 l3 = (xs4, o4, l4) := ⟨_, _, _, rfl⟩
 have hl3 : l3.length ≤ 20000 := by
  have h1 := rI_le ok l
  have h2 := rB_le o1 l1
  have h3 := rI_le o2 l2
  rw [e1] at h1
  rw [e2] at h2
  rw [e3] at h3
  simp only at h1 h2 h3
  omega
 obtain ⟨s, hs⟩ : ∃ s, s = rJ ok l := ⟨_, rfl⟩
 rw [← hs]
 simp only [rJ, e1, e2, e3, e4] at hs
 obtain ⟨k2, hk2⟩ : ∃ k2, k2 = i64n x2 := ⟨_, rfl⟩
 have hk := i64n_in x2
 rw [← hk2] at hk hs
 obtain ⟨u1, hu1⟩ : ∃ u1, u1 = n32 x1 := ⟨_, rfl⟩
 have g1 := wrap_n32 x1
 obtain ⟨u3, hu3⟩ : ∃ u3, u3 = n32 x3 := ⟨_, rfl⟩
 have g3 := wrap_n32 x3
 have g2 : IntKind.i64.wrap (x2 : Int) = k2 := by rw [hk2]; rfl
 rw [← hu1] at g1 hs
 rw [← hu3] at g3 hs
 have HS := Lib.hid hs
 have HU : Hid (u1 < 4294967296 ∧ u3 < 4294967296 ∧ -9223372036854775808 ≤ k2 ∧ k2 ≤ 9223372036854775807) := Lib.hid ⟨by rw [hu1]; exact n32_lt _, by rw [hu3]; exact n32_lt _, hk.1, hk.2⟩
 have H1 := Lib.hid (fun W (h : Rd W S p ok l) => rI_any W S p ok l h _ _ _ e1)
 have H2 := Lib.hid (fun W (h : Rd W S p o1 l1) => rB_any W S p o1 l1 h _ _ _ e2)
 have H3 := Lib.hid (fun W (h : Rd W S p o2 l2) => rI_any W S p o2 l2 h _ _ _ e3)
 have H4 := Lib.hid (fun W (h : Rd W S p o3 l3) (hS : ∀ b, S b → b < W.heap.size) => by have h9 := readListCV_any W S p o3 l3 h hS hl3; rw [e4] at h9; exact h9)
 have HR0 := Lib.hid ((RG.start h hS).alloc (.cells #[.int .u32 0, .int .i64 0, .int .u64 0, .int .u32 0, .slice none 0 0] 53))
 have HD0 := Lib.hid (Blk.new w 53 #[.int .u32 0, .int .i64 0, .int .u64 0, .int .u32 0, .slice none 0 0])
 clear e1 e2 e3 e4 h hS hl hl3 hu1 hu3 hs hk hk2
 go_enter Tryz.func83, Tryz.ntmps83
 go_wp2_with fail
 with_reducible refine (H1.out _ HR0.out.rd).mono ?_
 rintro e w1 ⟨rfl, hr, hf⟩
 have HQ := Lib.hid (HR0.out.call hr hf)
 have HG : Hid (w.heap.size ≤ w1.heap.size) := Lib.hid HQ.out.size
 have HD1 := Lib.hid ((HD0.out.keep hf (HR0.out.not (Nat.le_refl _))).alloc (.cells #[.int .u32 (u1 : Int), .int .i64 0, .int .u64 0, .int .u32 0, .slice none 0 0] 53))
 have HB1 := Lib.hid (Blk.new w1 53 #[.int .u32 (u1 : Int), .int .i64 0, .int .u64 0, .int .u32 0, .slice none 0 0])
 have HN : Hid (w.heap.size ≠ w1.heap.size) := Lib.hid (by have := (HD0.out.keep hf (HR0.out.not (Nat.le_refl _))).lt; omega)
 have HR1 := Lib.hid (HQ.out.alloc (.cells #[.int .u32 (u1 : Int), .int .i64 0, .int .u64 0, .int .u32 0, .slice none 0 0] 53))
 clear hr hf HQ HD0
 go_wp2_with fail
 with_reducible refine (H2.out _ HR1.out.rd).mono ?_
 rintro e w2 ⟨rfl, hr, hf⟩
 have hb := HB1.out.keep hf (HR1.out.not HG.out)
 have yc := hb.cell 1
 have yf := hb.frozen 1
 simp only [List.getElem?_toArray, List.getElem?_cons_zero, List.getElem?_cons_succ] at yc
 have HB2 : Hid (Blk (w2.setCell ⟨w1.heap.size, 1, none⟩ (.int .i64 k2)) w1.heap.size 53 #[.int .u32 (u1 : Int), .int .i64 k2, .int .u64 0, .int .u32 0, .slice none 0 0]) := Lib.hid (hb.set_ 1 (.int .i64 k2))
 have HD2 := Lib.hid ((HD1.out.keep hf (HR1.out.not (Nat.le_refl _))).far (p := ⟨w1.heap.size, 1, none⟩) HN.out (.int .i64 k2))
 have HR2 := Lib.hid ((HR1.out.call hr hf).set HG.out 1 (.int .i64 k2))
 clear hr hf hb
 go_wp2_with fail
 with_reducible refine (H3.out _ HR2.out.rd).mono ?_
 rintro e w3 ⟨rfl, hr, hf⟩
 have hb := HB2.out.keep hf (HR2.out.not HG.out)
 have yc := hb.cell 3
 have yf := hb.frozen 3
 simp only [List.getElem?_toArray, List.getElem?_cons_zero, List.getElem?_cons_succ] at yc
 have HB3 : Hid (Blk (w3.setCell ⟨w1.heap.size, 3, none⟩ (.int .u32 (u3 : Int))) w1.heap.size 53 #[.int .u32 (u1 : Int), .int .i64 k2, .int .u64 0, .int .u32 (u3 : Int), .slice none 0 0]) := Lib.hid (hb.set_ 3 (.int .u32 (u3 : Int)))
 have HD3 := Lib.hid ((HD2.out.keep hf (HR2.out.not (Nat.le_refl _))).far (p := ⟨w1.heap.size, 3, none⟩) HN.out (.int .u32 (u3 : Int)))
 have HR3 := Lib.hid ((HR2.out.call hr hf).set HG.out 3 (.int .u32 (u3 : Int)))
 clear hr hf hb
 go_wp2_with fail
 with_reducible refine (H4.out _ HR3.out.rd HR3.out.blocks).mono ?_
 unfold LRCV
 rintro e w4 ⟨v, n, vs, rfl, ho, hve, hn, hr, hf⟩
 obtain ⟨A, c, rfl, hnc, _, hA, hcr⟩ := ho.z.reads (by omega)
 have hb := HB3.out.keep hf (HR3.out.not HG.out)
 have hW3 := HB3.out.lt
 have yc := hb.cell 4
 have yf := hb.frozen 4
 simp only [List.getElem?_toArray, List.getElem?_cons_zero, List.getElem?_cons_succ] at yc
 have HB4 : Hid (Blk (w4.setCell ⟨w1.heap.size, 4, none⟩ (.slice A n c)) w1.heap.size 53 #[.int .u32 (u1 : Int), .int .i64 k2, .int .u64 0, .int .u32 (u3 : Int), .slice A n c]) := Lib.hid (hb.set_ 4 (.slice A n c))
 have hd := HD3.out.keep hf (HR3.out.not (Nat.le_refl _))
 have HD4 := Lib.hid (hd.far (p := ⟨w1.heap.size, 4, none⟩) HN.out (.slice A n c))
 have HR4 := Lib.hid ((HR3.out.call hr hf).set HG.out 4 (.slice A n c))
 have hlo := HR3.out.size
 have HCR : Hid (CR w4 (fun b => (w.heap.size < b ∧ b ≠ w1.heap.size) ∧ Zf w4 b) (fun b => (w.heap.size < b ∧ b ≠ w1.heap.size) ∧ Zf w4 b) A n vs) := Lib.hid (by
  have hW0 := HD3.out.lt
  have h9 : ∀ b, (w3.setCell ⟨w1.heap.size, 3, none⟩ (.int .u32 (u3 : Int))).heap.size ≤ b → w.heap.size < b ∧ b ≠ w1.heap.size := fun b hb => ⟨by omega, by omega⟩
  exact hcr.mono (fun b _ hb => ⟨h9 b hb.1, hb.2⟩) fun b _ hb => ⟨h9 b hb.1.1, hb.2⟩)
 have HM := Lib.hid (And.intro hn (And.intro hnc (And.intro hA hve)))
 have c0 := HB4.out.cell 0
 have c1 := HB4.out.cell 1
 have c2 := HB4.out.cell 2
 have c3 := HB4.out.cell 3
 have c4 := HB4.out.cell 4
 simp only [List.getElem?_toArray, List.getElem?_cons_zero, List.getElem?_cons_succ] at c0 c1 c2 c3 c4
 clear hr hf hb ho hd hn hnc hA hcr hve hlo hW3
 have E0 : Hid (Blk _ w.heap.size 53 #[.int .u32 0, .int .i64 0, .int .u64 0, .int .u32 0, .slice none 0 0]) := HD4
 have a0 := E0.out.cell 0
 have f0 := E0.out.frozen 0
 have E1 : Hid (Blk _ w.heap.size 53 #[.int .u32 (u1 : Int), .int .i64 0, .int .u64 0, .int .u32 0, .slice none 0 0]) := Lib.hid (E0.out.set_ 0 (.int .u32 (u1 : Int)))
 have a1 := E1.out.cell 1
 have f1 := E1.out.frozen 1
 have E2 : Hid (Blk _ w.heap.size 53 #[.int .u32 (u1 : Int), .int .i64 k2, .int .u64 0, .int .u32 0, .slice none 0 0]) := Lib.hid (E1.out.set_ 1 (.int .i64 k2))
 have a2 := E2.out.cell 2
 have f2 := E2.out.frozen 2
 have E3 : Hid (Blk _ w.heap.size 53 #[.int .u32 (u1 : Int), .int .i64 k2, .int .u64 0, .int .u32 0, .slice none 0 0]) := Lib.hid (E2.out.set_ 2 (.int .u64 0))
 have a3 := E3.out.cell 3
 have f3 := E3.out.frozen 3
 have E4 : Hid (Blk _ w.heap.size 53 #[.int .u32 (u1 : Int), .int .i64 k2, .int .u64 0, .int .u32 (u3 : Int), .slice none 0 0]) := Lib.hid (E3.out.set_ 3 (.int .u32 (u3 : Int)))
 have a4 := E4.out.cell 4
 have f4 := E4.out.frozen 4
 have E5 : Hid (Blk _ w.heap.size 53 #[.int .u32 (u1 : Int), .int .i64 k2, .int .u64 0, .int .u32 (u3 : Int), .slice A n c]) := Lib.hid (E4.out.set_ 4 (.slice A n c))
 have b0 := E1.out.cell 0
 have b1 := E2.out.cell 1
 have b2 := E3.out.cell 2
 have b3 := E4.out.cell 3
 have b4 := E5.out.cell 4
 simp only [List.getElem?_toArray, List.getElem?_cons_zero, List.getElem?_cons_succ] at a0 b0 a1 b1 a2 b2 a3 b3 a4 b4
 have HZ := Lib.hid (((((HR4.out.set (Nat.le_refl _) 0 (.int .u32 (u1 : Int))).set (Nat.le_refl _) 1 (.int .i64 k2)).set (Nat.le_refl _) 2 (.int .u64 0)).set (Nat.le_refl _) 3 (.int .u32 (u3 : Int))).set (Nat.le_refl _) 4 (.slice A n c))
 have HY := Lib.hid (HCR.out.up (((((((Fr.refl w4 (fun b => b = w1.heap.size ∨ b = w.heap.size)).setCell (p := ⟨w1.heap.size, 4, none⟩) (Or.inl (Or.inl rfl)) (.slice A n c)).setCell (p := ⟨w.heap.size, 0, none⟩) (Or.inl (Or.inr rfl)) (.int .u32 (u1 : Int))).setCell (p := ⟨w.heap.size, 1, none⟩) (Or.inl (Or.inr rfl)) (.int .i64 k2)).setCell (p := ⟨w.heap.size, 2, none⟩) (Or.inl (Or.inr rfl)) (.int .u64 0)).setCell (p := ⟨w.heap.size, 3, none⟩) (Or.inl (Or.inr rfl)) (.int .u32 (u3 : Int))).setCell (p := ⟨w.heap.size, 4, none⟩) (Or.inl (Or.inr rfl)) (.slice A n c)) (fun b hb hn => by rcases hn with hn | hn <;> omega))
 go_wp2_with fail
 refine bodyPost_ret (by simp [results, Tryz.results83, go_sem, b0, b1, b2, b3, b4]; try rfl) rfl ?_
 unfold ImR
 rw [HS.out]
 refine ⟨⟨u1, ⟨k2, 0, u3, A, n, c, vs⟩⟩, rfl, by unfold IV.e PV.es; rw [HM.out.2.2.2], ⟨HU.out.1, ⟨HY.out.mono (fun b _ hb => ⟨Nat.le_of_lt hb.1.1, hb.2⟩) (fun b _ hb => ⟨Nat.le_of_lt hb.1.1, hb.2⟩), HM.out.2.1, HM.out.2.2.1, HU.out.2.2.1, HU.out.2.2.2, (by show (0 : Nat) < 18446744073709551616; decide), HU.out.2.1⟩⟩, HM.out.1, HZ.out.rd, HZ.out.2.2⟩
def LRIV (w : World) (S : Nat → Prop) (p : Option Nat) (s : List IE × Bool × List Nat) (e : Ending) (w' : World) : Prop :=
 ∃ v k xs, e = .returned v ∧ OwIV w' (fun b => w.heap.size ≤ b) (fun b => Beyond w v b ∧ Zf w' b) v k xs ∧ xs.map IV.e = s.1 ∧ k ≤ 20001 ∧ Rd w' S p s.2.1 s.2.2 ∧ Fr w w' S
set_option maxHeartbeats 2000000 in
theorem readListIV_any (w : World) (S : Nat → Prop) (p : Option Nat) (ok : Bool) (l : List Nat) (h : Rd w S p ok l) (hS : ∀ b, S b → b < w.heap.size) (hl : l.length ≤ 20000) :
  Calls Tryz.prog 114 #[ptr p, .func (.func 83) #[] #[]] w (LRIV w S p (rLJs ok l)) := by
 obtain ⟨x1, o1, l1, e1⟩ : ∃ x1 o1 l1, rI ok l = (x1, o1, l1) := ⟨_, _, _, rfl⟩
 have hl1 : l1.length ≤ 20000 := by
  have h2 := rI_le ok l
  rw [e1] at h2
  exact Nat.le_trans h2 hl
 have hx1 : x1 < 18446744073709551616 := by
  have : (rI ok l).1 < 18446744073709551616 := front_val_lt ok l
  rw [e1] at this
  exact this
 obtain ⟨s, hs⟩ : ∃ s, s = rLJs ok l := ⟨_, rfl⟩
 rw [← hs]
 have hs1 : s = rLJ x1 o1 l1 := by rw [hs]; unfold rLJs; rw [e1]
 have H1 := Lib.hid (fun W (h : Rd W S p ok l) => rI_any W S p ok l h _ _ _ e1)
 have HR0 := Lib.hid (RG.start h hS)
 have HS := Lib.hid hs1
 have HL := Lib.hid hl1
 have HX1 := Lib.hid hx1
 clear h hS hs hs1 hl hl1 hx1 e1
 go_enter Tryz.func114, Tryz.ntmps114
 go_wp2_with fail
 with_reducible refine (H1.out _ HR0.out.rd).mono ?_
 rintro e w1 ⟨rfl, hr, hf⟩
 have HR1 := Lib.hid (HR0.out.call hr hf)
 clear hr hf
 go_wp2_with fail
 go_loopw [5, 6] (fun v i wr => ∃ (q k : Nat) (xs : List IV) (o : Bool) (m : List Nat), q ≤ x1 ∧ i = .int .u64 (q : Int) ∧ OwIV wr (fun b => w.heap.size ≤ b) (fun b => Beyond w v b ∧ Zf wr b) v k xs ∧ RG w S p wr o m ∧ s = (xs.map IV.e ++ (rLJ q o m).1, (rLJ q o m).2) ∧ k ≤ 20001 ∧ m.length ≤ 20000 ∧ (o = true → k + m.length ≤ 20000)) (fun _ i _ => (intOf i).toNat)
 case atStart => exact ⟨x1, 0, [], o1, l1, Nat.le_refl _, rfl, OwIV.nil_ _ _ _, HR1.out, HS.out, by omega, HL.out, fun _ => by have := HL.out; omega⟩
 case round =>
  obtain ⟨q, k, xs, o, m, hq, rfl, how, hrg, hsm, hk, hm20, hkm⟩ := hrel
  have HOW := Lib.hid how
  have HRG := Lib.hid hrg
  have HSM := Lib.hid hsm
  have HK := Lib.hid (And.intro hk (And.intro hkm hm20))
  have HE := Lib.hid (err_any wr S p o m hrg.rd)
  have HQ : Hid (q < 18446744073709551616) := Lib.hid (by have := HX1.out; omega)
  have HQ1 := Lib.hid hq
  obtain ⟨vA, vc, rfl, _, _, _, _⟩ := how.reads (by omega)
  clear how hrg hsm hk hkm hq hm20
  by_cases h0 : q = 0
  ·have d1 : decide ((q : Int) > 0) = false := decide_eq_false (by omega)
   have d2 : decide (0 < q) = false := decide_eq_false (by omega)
   have H0 := Lib.hid h0
   clear h0
   go_wp2_with fail
   go_ret
   unfold LRIV
   rw [HSM.out, H0.out]
   simp only [rLJ, List.append_nil]
   exact ⟨_, _, _, rfl, HOW.out, rfl, HK.out.1, HRG.out.rd, HRG.out.2.2⟩
  ·have d1 : decide ((q : Int) > 0) = true := decide_eq_true (by omega)
   have d2 : decide (0 < q) = true := decide_eq_true (by omega)
   cases o with
   | false =>
     simp only [errOf] at HE
     go_wp2_with fail
     with_reducible refine HE.out.mono ?_
     rintro e w2 ⟨rfl, rfl⟩
     go_wp2_with fail
     go_ret
     unfold LRIV
     rw [HSM.out, rLJ_no]
     simp only [List.append_nil]
     exact ⟨_, _, _, rfl, HOW.out, rfl, HK.out.1, HRG.out.rd, HRG.out.2.2⟩
   | true =>
     simp only [errOf] at HE
     obtain ⟨q', rfl⟩ : ∃ q', q = q' + 1 := ⟨q - 1, by omega⟩
     have hw1 : IntKind.u64.wrap (q' : Int) = (q' : Int) := by have := HQ.out; rw [IntKind.wrap_u64]; omega
     have HKM : Hid (k + m.length ≤ 20000) := Lib.hid (HK.out.2.1 rfl)
     have HQX : Hid (q' ≤ x1) := Lib.hid (by have := HQ1.out; omega)
     have HI := Lib.hid (readImage_any wr S p true m HRG.out.rd (fun b hb => Nat.lt_of_lt_of_le (HRG.out.2.1 b hb) HRG.out.size) HK.out.2.2)
     have HLS : Hid ((rJ true m).2.1 = true → (rJ true m).2.2.length < m.length) := Lib.hid (fun h => rJ_less true m h)
     have HLE : Hid ((rJ true m).2.2.length ≤ 20000) := Lib.hid (Nat.le_trans (rJ_le true m) HK.out.2.2)
     have HSM2 : Hid (s = (xs.map IV.e ++ [(rJ true m).1] ++ (rLJ q' (rJ true m).2.1 (rJ true m).2.2).1, (rLJ q' (rJ true m).2.1 (rJ true m).2.2).2)) := Lib.hid (by rw [HSM.out]; simp only [rLJ, if_true, List.append_assoc, List.singleton_append])
     clear h0
     go_wp2_with fail
     with_reducible refine HE.out.mono ?_
     rintro e w2 ⟨rfl, rfl⟩
     go_wp2_with fail
     with_reducible refine HI.out.mono ?_
     unfold ImR
     rintro e w3 ⟨y, rfl, hye, hyi, _, hr, hf⟩
     have HYE := Lib.hid hye
     have hsz3 := hf.size
     have hown3 : ∀ b, wr.heap.size ≤ b → Beyond w (.slice vA k vc) b := fun b hb => ⟨Nat.le_trans HRG.out.size hb, fun he => by have := (HOW.out.1.lt b he).2; omega⟩
     have HYI : Hid (IV.In w3 (fun b => Beyond w (.slice vA k vc) b ∧ Zf w3 b) y) := Lib.hid (hyi.mono fun b _ hb => ⟨hown3 b hb.1, hb.2⟩)
     have HO3 := Lib.hid ((HOW.out.up hf (fun b hb => HRG.out.not hb) (fun b hb => HRG.out.not hb.1) (fun k hk h => h.2 hk)).alloc (.cells #[.int .u32 (y.t : Int), .int .i64 y.p.k, .int .u64 (y.p.s : Int), .int .u32 (y.p.x : Int), .slice y.p.A y.p.n y.p.c] 53))
     have HR3 := Lib.hid ((HRG.out.call hr hf).alloc (.cells #[.int .u32 (y.t : Int), .int .i64 y.p.k, .int .u64 (y.p.s : Int), .int .u32 (y.p.x : Int), .slice y.p.A y.p.n y.p.c] 53))
     have HKB : Hid ((k + 1) * 56 ≤ 140737488355328) := Lib.hid (by have := HK.out.1; omega)
     have HC3 := Lib.hid (Blk.new w3 53 #[.int .u32 (y.t : Int), .int .i64 y.p.k, .int .u64 (y.p.s : Int), .int .u32 (y.p.x : Int), .slice y.p.A y.p.n y.p.c])
     have HYI3 := Lib.hid (HYI.out.keep ((Fr.refl w3 No).alloc (.cells #[.int .u32 (y.t : Int), .int .i64 y.p.k, .int .u64 (y.p.s : Int), .int .u32 (y.p.x : Int), .slice y.p.A y.p.n y.p.c] 53)) fun _ _ hn => hn)
     simp only [IV.agg]
     clear hr hf hye hyi hsz3 hown3
     go_wp2_with (at_builtin; go_must (refine wpList_appIV rfl (.tmp 18) (.tmp 22) rfl _ k xs rfl HO3.out w3.heap.size 1 y rfl HC3.out HYI3.out HKB.out ?_); intro v1 w4 hown hgrow; have HO4 := Lib.hid hown; have HG4 := Lib.hid hgrow; clear hown hgrow)
     go_roundw
     case rel =>
      refine ⟨q', k + 1, xs ++ [y], (rJ true m).2.1, (rJ true m).2.2, HQX.out, by go_num, HO4.out.mono (fun b _ hb => ?_) (fun b _ hb => ⟨⟨hb.1.1.1, fun he => HO4.out.2.2.2 b he hb⟩, (hb.1.2.keep ((Fr.refl w3 No).alloc _) (fun hn => hn)).grown HG4.out hb.1.1.2⟩) (fun b hb hn => hn.1.2 hb), HR3.out.grown HG4.out (fun q hq => HO3.out.2.2.1 q hq), ?_, ?_, HLE.out, fun ho => ?_⟩
      ·rcases hb with hb | hb
       ·exact hb
       ·exact Nat.le_trans HR3.out.size hb
      ·rw [HSM2.out, List.map_append, ← HYE.out]; rfl
      ·have := HKM.out; omega
      ·have := HKM.out; have := HLS.out ho; omega
     case measure => simp [intOf]
end Go.Proofs.YtdhgbkibbileiaaGreat
