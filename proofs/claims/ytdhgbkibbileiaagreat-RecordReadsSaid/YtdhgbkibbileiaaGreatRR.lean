/-
RR
-/
import Derived.Test.YtdhgbkibbileiaaGreatRN
import Derived.Test.YtdhgbkibbileiaaGreatRQ
set_option maxRecDepth 100000
namespace Go.Proofs.YtdhgbkibbileiaaGreat
open Go.RowKit
theorem RG.grown {W wr w' : World} {S : Nat → Prop} {p : Option Nat} {ok : Bool} {l : List Nat} {row : Option Nat} (h : RG W S p wr ok l) (hg : wr.grownBy w' row) (hr : ∀ k, row = some k → W.heap.size ≤ k) : RG W S p w' ok l :=
 ⟨h.1.keep ((Fr.refl wr (fun b => row = some b)).grown hg fun k hk => Or.inl hk) (fun b hb hk => by have := h.2.1 b hb; have := hr b hk; omega), h.2.1, h.2.2.grown hg fun k hk => Or.inr (hr k hk)⟩
theorem rI_less (ok : Bool) (l : List Nat) (h : (rI ok l).2.1 = true) : (rI ok l).2.2.length < l.length := by
 unfold rI at h ⊢
 cases ok with
 | false => simp [okO] at h
 | true =>
   cases hf : Cd.front l with
   | none => rw [hf] at h; simp [okO] at h
   | some q =>
     obtain ⟨x, n⟩ := q
     have := Cd.front_pos hf
     simp only [leftO, List.length_drop]
     omega
theorem rI_ok (ok : Bool) (l : List Nat) (h : (rI ok l).2.1 = true) : ok = true := by
 cases ok with
 | false => simp [rI, okO] at h
 | true => rfl
theorem rD_less (ok : Bool) (l : List Nat) (h : (rD ok l).2.1 = true) : (rD ok l).2.2.length < l.length := by
 have h1 := rI_less _ _ h
 have h2 := rI_less _ _ (rI_ok _ _ h)
 show (rI (rI ok l).2.1 (rI ok l).2.2).2.2.length < _
 omega
theorem front_val_lt (ok : Bool) (l : List Nat) : (rI ok l).1 < 18446744073709551616 := by
 unfold rI valO
 split
 ·rename_i h; exact Cd.front_lt h
 ·omega
theorem n32_lt (n : Nat) : n32 n < 4294967296 := by unfold n32; omega
theorem rD_In (ok : Bool) (l : List Nat) (w : World) (T : Nat → Prop) : (rD ok l).1.In w T := ⟨n32_lt _, front_val_lt _ _⟩
def rLD : Nat → Bool → List Nat → List DV × Bool × List Nat
 | 0, ok, l => ([], ok, l)
 | n + 1, ok, l => if ok then ((rD ok l).1 :: (rLD n (rD ok l).2.1 (rD ok l).2.2).1, (rLD n (rD ok l).2.1 (rD ok l).2.2).2) else ([], ok, l)
theorem rLD_no (n : Nat) (l : List Nat) : rLD n false l = ([], false, l) := by cases n <;> simp [rLD]
def rLV : Nat → Bool → List Nat → List LV × Bool × List Nat
 | 0, ok, l => ([], ok, l)
 | n + 1, ok, l => if ok then ((rV ok l).1 :: (rLV n (rV ok l).2.1 (rV ok l).2.2).1, (rLV n (rV ok l).2.1 (rV ok l).2.2).2) else ([], ok, l)
theorem rLV_no (n : Nat) (l : List Nat) : rLV n false l = ([], false, l) := by cases n <;> simp [rLV]
def rLVs (ok : Bool) (l : List Nat) : List LV × Bool × List Nat := rLV (rI ok l).1 (rI ok l).2.1 (rI ok l).2.2
theorem rV_In (ok : Bool) (l : List Nat) (w : World) (T : Nat → Prop) : (rV ok l).1.In w T := ⟨n32_lt _, front_val_lt _ _, front_val_lt _ _⟩
theorem rB_ok (ok : Bool) (l : List Nat) (h : (rB ok l).2.1 = true) : ok = true := by
 cases ok with
 | false => simp [rB, okO] at h
 | true => rfl
theorem rB_le (ok : Bool) (l : List Nat) : (rB ok l).2.2.length ≤ l.length := by
 show (leftO ok l _).length ≤ _
 unfold leftO
 split
 ·simp
 ·exact Nat.le_refl _
theorem rV_less (ok : Bool) (l : List Nat) (h : (rV ok l).2.1 = true) : (rV ok l).2.2.length < l.length := by
 obtain ⟨a, ha⟩ : ∃ a, a = rI ok l := ⟨_, rfl⟩
 obtain ⟨b, hb⟩ : ∃ b, b = rI a.2.1 a.2.2 := ⟨_, rfl⟩
 obtain ⟨c, hc⟩ : ∃ c, c = rI b.2.1 b.2.2 := ⟨_, rfl⟩
 have hv : (rV ok l).2 = (rB c.2.1 c.2.2).2 := by rw [hc, hb, ha]; rfl
 rw [hv] at h ⊢
 have k3 := rB_ok _ _ h
 have k2 := rI_ok b.2.1 b.2.2 (by rw [← hc]; exact k3)
 have k1 := rI_ok a.2.1 a.2.2 (by rw [← hb]; exact k2)
 have l4 := rB_le c.2.1 c.2.2
 have l3 := rI_less b.2.1 b.2.2 (by rw [← hc]; exact k3)
 have l2 := rI_less a.2.1 a.2.2 (by rw [← hb]; exact k2)
 have l1 := rI_less ok l (by rw [← ha]; exact k1)
 rw [← hc] at l3
 rw [← hb] at l2
 rw [← ha] at l1
 omega
def rLDs (ok : Bool) (l : List Nat) : List DV × Bool × List Nat := rLD (rI ok l).1 (rI ok l).2.1 (rI ok l).2.2
def LRDV (w : World) (S : Nat → Prop) (p : Option Nat) (s : List DV × Bool × List Nat) (e : Ending) (w' : World) : Prop :=
 ∃ v k, e = .returned v ∧ OwDV w' (fun b => w.heap.size ≤ b) No v k s.1 ∧ k ≤ 20001 ∧ Rd w' S p s.2.1 s.2.2 ∧ Fr w w' S
set_option maxHeartbeats 2000000 in
theorem readListDV_any (w : World) (S : Nat → Prop) (p : Option Nat) (ok : Bool) (l : List Nat) (h : Rd w S p ok l) (hS : ∀ b, S b → b < w.heap.size) (hl : l.length ≤ 20000) :
  Calls Tryz.prog 126 #[ptr p, .func (.func 91) #[] #[]] w (LRDV w S p (rLDs ok l)) := by
 obtain ⟨x1, o1, l1, e1⟩ : ∃ x1 o1 l1, rI ok l = (x1, o1, l1) := ⟨_, _, _, rfl⟩
 have hl1 : l1.length ≤ 20000 := by
  have := rI_in ok l
  have h2 : (rI ok l).2.2.length ≤ l.length := by
   show (leftO ok l _).length ≤ _
   unfold leftO
   split
   ·simp
   ·exact Nat.le_refl _
  rw [e1] at h2
  exact Nat.le_trans h2 hl
 have hx1 : x1 < 18446744073709551616 := by
  have : (rI ok l).1 < 18446744073709551616 := front_val_lt ok l
  rw [e1] at this
  exact this
 obtain ⟨s, hs⟩ : ∃ s, s = rLDs ok l := ⟨_, rfl⟩
 rw [← hs]
 have hs1 : s = rLD x1 o1 l1 := by rw [hs]; unfold rLDs; rw [e1]
 have H1 := Lib.hid (fun W (h : Rd W S p ok l) => rI_any W S p ok l h _ _ _ e1)
 have HR0 := Lib.hid (RG.start h hS)
 have HS := Lib.hid hs1
 have HL := Lib.hid hl1
 have HX1 := Lib.hid hx1
 clear h hS hs hs1 hl hl1 hx1 e1
 go_enter Tryz.func126, Tryz.ntmps126
 go_wp2_with fail
 with_reducible refine (H1.out _ HR0.out.rd).mono ?_
 rintro e w1 ⟨rfl, hr, hf⟩
 have HR1 := Lib.hid (HR0.out.call hr hf)
 clear hr hf
 go_wp2_with fail
 go_loopw [5, 6] (fun v i wr => ∃ (q k : Nat) (xs : List DV) (o : Bool) (m : List Nat), q ≤ x1 ∧ i = .int .u64 (q : Int) ∧ OwDV wr (fun b => w.heap.size ≤ b) No v k xs ∧ RG w S p wr o m ∧ s = (xs ++ (rLD q o m).1, (rLD q o m).2) ∧ k ≤ 20001 ∧ (o = true → k + m.length ≤ 20000)) (fun _ i _ => (intOf i).toNat)
 case atStart => exact ⟨x1, 0, [], o1, l1, Nat.le_refl _, rfl, OwDV.nil_ _ _ _, HR1.out, HS.out, by omega, fun _ => by have := HL.out; omega⟩
 case round =>
  obtain ⟨q, k, xs, o, m, hq, rfl, how, hrg, hsm, hk, hkm⟩ := hrel
  have HOW := Lib.hid how
  have HRG := Lib.hid hrg
  have HSM := Lib.hid hsm
  have HK := Lib.hid (And.intro hk hkm)
  have HE := Lib.hid (err_any wr S p o m hrg.rd)
  have HQ : Hid (q < 18446744073709551616) := Lib.hid (by have := HX1.out; omega)
  have HQ1 := Lib.hid hq
  obtain ⟨vA, vc, rfl, _, _, _, _⟩ := how.reads (by omega)
  clear how hrg hsm hk hkm hq
  by_cases h0 : q = 0
  ·have d1 : decide ((q : Int) > 0) = false := decide_eq_false (by omega)
   have d2 : decide (0 < q) = false := decide_eq_false (by omega)
   have H0 := Lib.hid h0
   clear h0
   go_wp2_with fail
   go_ret
   unfold LRDV
   rw [HSM.out, H0.out]
   simp only [rLD, List.append_nil]
   exact ⟨_, _, rfl, HOW.out, HK.out.1, HRG.out.rd, HRG.out.2.2⟩
  ·have d1 : decide ((q : Int) > 0) = true := decide_eq_true (by omega)
   have d2 : decide (0 < q) = true := decide_eq_true (by omega)
   cases o with
   | false =>
     simp only [errOf] at HE
     go_wp2_with fail
     with_reducible refine HE.out.mono ?_
     rintro e w2 ⟨rfl, rfl⟩
     go_wp2_with fail
     go_ret
     unfold LRDV
     rw [HSM.out, rLD_no]
     simp only [List.append_nil]
     exact ⟨_, _, rfl, HOW.out, HK.out.1, HRG.out.rd, HRG.out.2.2⟩
   | true =>
     simp only [errOf] at HE
     obtain ⟨q', rfl⟩ : ∃ q', q = q' + 1 := ⟨q - 1, by omega⟩
     have hw1 : IntKind.u64.wrap (q' : Int) = (q' : Int) := by have := HQ.out; rw [IntKind.wrap_u64]; omega
     have HKM : Hid (k + m.length ≤ 20000) := Lib.hid (HK.out.2 rfl)
     have HQX : Hid (q' ≤ x1) := Lib.hid (by have := HQ1.out; omega)
     obtain ⟨y, o2, m2, e2⟩ : ∃ y o2 m2, rD true m = (y, o2, m2) := ⟨_, _, _, rfl⟩
     have HI := Lib.hid (readDirty_any wr S p true m HRG.out.rd (fun b hb => Nat.lt_of_lt_of_le (HRG.out.2.1 b hb) HRG.out.size) y o2 m2 e2)
     have HIN : Hid (∀ W T, DV.In W T y) := Lib.hid fun W T => by have := rD_In true m W T; rw [e2] at this; exact this
     have HLS : Hid (o2 = true → m2.length < m.length) := Lib.hid (by have := rD_less true m; rw [e2] at this; exact this)
     have HSM2 : Hid (s = (xs ++ [y] ++ (rLD q' o2 m2).1, (rLD q' o2 m2).2)) := Lib.hid (by rw [HSM.out]; simp only [rLD, if_true, e2, List.append_assoc, List.singleton_append])
     clear h0 e2
     go_wp2_with fail
     with_reducible refine HE.out.mono ?_
     rintro e w2 ⟨rfl, rfl⟩
     go_wp2_with fail
     with_reducible refine HI.out.mono ?_
     rintro e w3 ⟨rfl, hr, hf⟩
     obtain ⟨t, a⟩ := y
     have HB3 := Lib.hid (Blk.new w3 64 #[.int .u32 (t : Int), .int .u64 (a : Int)])
     have HO3 := Lib.hid ((HOW.out.keep hf (fun b hb => HRG.out.not hb) (fun _ hn => hn.elim)).alloc (.cells #[.int .u32 (t : Int), .int .u64 (a : Int)] 64))
     have HR3 := Lib.hid ((HRG.out.call hr hf).alloc (.cells #[.int .u32 (t : Int), .int .u64 (a : Int)] 64))
     have HKB : Hid ((k + 1) * 16 ≤ 140737488355328) := Lib.hid (by have := HK.out.1; omega)
     simp only [DV.agg]
     clear hr hf
     go_wp2_with (at_builtin; go_must (refine wpList_appDV rfl (.tmp 18) (.tmp 22) rfl _ k xs rfl HO3.out w3.heap.size 1 ⟨t, a⟩ rfl HB3.out (HIN.out _ _) HKB.out ?_); intro v1 w4 hown hgrow; have HO4 := Lib.hid hown; have HG4 := Lib.hid hgrow; clear hown hgrow)
     go_roundw
     case rel =>
      refine ⟨q', k + 1, xs ++ [⟨t, a⟩], o2, m2, HQX.out, by go_num, HO4.out.mono (fun b _ hb => ?_) (fun b _ hb => hb.1) (fun _ _ hn => hn), HR3.out.grown HG4.out (fun q hq => HO3.out.2.2.1 q hq), HSM2.out, ?_, fun ho => ?_⟩
      ·rcases hb with hb | hb
       ·exact hb
       ·exact Nat.le_trans HR3.out.size hb
      ·have := HKM.out; omega
      ·have := HKM.out; have := HLS.out ho; omega
     case measure => simp [intOf]
def LRLV (w : World) (S : Nat → Prop) (p : Option Nat) (s : List LV × Bool × List Nat) (e : Ending) (w' : World) : Prop :=
 ∃ v k, e = .returned v ∧ OwLV w' (fun b => w.heap.size ≤ b) No v k s.1 ∧ k ≤ 20001 ∧ Rd w' S p s.2.1 s.2.2 ∧ Fr w w' S
set_option maxHeartbeats 2000000 in
theorem readListLV_any (w : World) (S : Nat → Prop) (p : Option Nat) (ok : Bool) (l : List Nat) (h : Rd w S p ok l) (hS : ∀ b, S b → b < w.heap.size) (hl : l.length ≤ 20000) :
  Calls Tryz.prog 122 #[ptr p, .func (.func 87) #[] #[]] w (LRLV w S p (rLVs ok l)) := by
 obtain ⟨x1, o1, l1, e1⟩ : ∃ x1 o1 l1, rI ok l = (x1, o1, l1) := ⟨_, _, _, rfl⟩
 have hl1 : l1.length ≤ 20000 := by
  have := rI_in ok l
  have h2 : (rI ok l).2.2.length ≤ l.length := by
   show (leftO ok l _).length ≤ _
   unfold leftO
   split
   ·simp
   ·exact Nat.le_refl _
  rw [e1] at h2
  exact Nat.le_trans h2 hl
 have hx1 : x1 < 18446744073709551616 := by
  have : (rI ok l).1 < 18446744073709551616 := front_val_lt ok l
  rw [e1] at this
  exact this
 obtain ⟨s, hs⟩ : ∃ s, s = rLVs ok l := ⟨_, rfl⟩
 rw [← hs]
 have hs1 : s = rLV x1 o1 l1 := by rw [hs]; unfold rLVs; rw [e1]
 have H1 := Lib.hid (fun W (h : Rd W S p ok l) => rI_any W S p ok l h _ _ _ e1)
 have HR0 := Lib.hid (RG.start h hS)
 have HS := Lib.hid hs1
 have HL := Lib.hid hl1
 have HX1 := Lib.hid hx1
 clear h hS hs hs1 hl hl1 hx1 e1
 go_enter Tryz.func122, Tryz.ntmps122
 go_wp2_with fail
 with_reducible refine (H1.out _ HR0.out.rd).mono ?_
 rintro e w1 ⟨rfl, hr, hf⟩
 have HR1 := Lib.hid (HR0.out.call hr hf)
 clear hr hf
 go_wp2_with fail
 go_loopw [5, 6] (fun v i wr => ∃ (q k : Nat) (xs : List LV) (o : Bool) (m : List Nat), q ≤ x1 ∧ i = .int .u64 (q : Int) ∧ OwLV wr (fun b => w.heap.size ≤ b) No v k xs ∧ RG w S p wr o m ∧ s = (xs ++ (rLV q o m).1, (rLV q o m).2) ∧ k ≤ 20001 ∧ (o = true → k + m.length ≤ 20000)) (fun _ i _ => (intOf i).toNat)
 case atStart => exact ⟨x1, 0, [], o1, l1, Nat.le_refl _, rfl, OwLV.nil_ _ _ _, HR1.out, HS.out, by omega, fun _ => by have := HL.out; omega⟩
 case round =>
  obtain ⟨q, k, xs, o, m, hq, rfl, how, hrg, hsm, hk, hkm⟩ := hrel
  have HOW := Lib.hid how
  have HRG := Lib.hid hrg
  have HSM := Lib.hid hsm
  have HK := Lib.hid (And.intro hk hkm)
  have HE := Lib.hid (err_any wr S p o m hrg.rd)
  have HQ : Hid (q < 18446744073709551616) := Lib.hid (by have := HX1.out; omega)
  have HQ1 := Lib.hid hq
  obtain ⟨vA, vc, rfl, _, _, _, _⟩ := how.reads (by omega)
  clear how hrg hsm hk hkm hq
  by_cases h0 : q = 0
  ·have d1 : decide ((q : Int) > 0) = false := decide_eq_false (by omega)
   have d2 : decide (0 < q) = false := decide_eq_false (by omega)
   have H0 := Lib.hid h0
   clear h0
   go_wp2_with fail
   go_ret
   unfold LRLV
   rw [HSM.out, H0.out]
   simp only [rLV, List.append_nil]
   exact ⟨_, _, rfl, HOW.out, HK.out.1, HRG.out.rd, HRG.out.2.2⟩
  ·have d1 : decide ((q : Int) > 0) = true := decide_eq_true (by omega)
   have d2 : decide (0 < q) = true := decide_eq_true (by omega)
   cases o with
   | false =>
     simp only [errOf] at HE
     go_wp2_with fail
     with_reducible refine HE.out.mono ?_
     rintro e w2 ⟨rfl, rfl⟩
     go_wp2_with fail
     go_ret
     unfold LRLV
     rw [HSM.out, rLV_no]
     simp only [List.append_nil]
     exact ⟨_, _, rfl, HOW.out, HK.out.1, HRG.out.rd, HRG.out.2.2⟩
   | true =>
     simp only [errOf] at HE
     obtain ⟨q', rfl⟩ : ∃ q', q = q' + 1 := ⟨q - 1, by omega⟩
     have hw1 : IntKind.u64.wrap (q' : Int) = (q' : Int) := by have := HQ.out; rw [IntKind.wrap_u64]; omega
     have HKM : Hid (k + m.length ≤ 20000) := Lib.hid (HK.out.2 rfl)
     have HQX : Hid (q' ≤ x1) := Lib.hid (by have := HQ1.out; omega)
     obtain ⟨y, o2, m2, e2⟩ : ∃ y o2 m2, rV true m = (y, o2, m2) := ⟨_, _, _, rfl⟩
     have HI := Lib.hid (readLive_any wr S p true m HRG.out.rd (fun b hb => Nat.lt_of_lt_of_le (HRG.out.2.1 b hb) HRG.out.size) y o2 m2 e2)
     have HIN : Hid (∀ W T, LV.In W T y) := Lib.hid fun W T => by have := rV_In true m W T; rw [e2] at this; exact this
     have HLS : Hid (o2 = true → m2.length < m.length) := Lib.hid (by have := rV_less true m; rw [e2] at this; exact this)
     have HSM2 : Hid (s = (xs ++ [y] ++ (rLV q' o2 m2).1, (rLV q' o2 m2).2)) := Lib.hid (by rw [HSM.out]; simp only [rLV, if_true, e2, List.append_assoc, List.singleton_append])
     clear h0 e2
     go_wp2_with fail
     with_reducible refine HE.out.mono ?_
     rintro e w2 ⟨rfl, rfl⟩
     go_wp2_with fail
     with_reducible refine HI.out.mono ?_
     rintro e w3 ⟨rfl, hr, hf⟩
     obtain ⟨t, a, b, z⟩ := y
     have HB3 := Lib.hid (Blk.new w3 62 #[.int .u32 (t : Int), .int .u64 (a : Int), .int .u64 (b : Int), .bool z])
     have HO3 := Lib.hid ((HOW.out.keep hf (fun b hb => HRG.out.not hb) (fun _ hn => hn.elim)).alloc (.cells #[.int .u32 (t : Int), .int .u64 (a : Int), .int .u64 (b : Int), .bool z] 62))
     have HR3 := Lib.hid ((HRG.out.call hr hf).alloc (.cells #[.int .u32 (t : Int), .int .u64 (a : Int), .int .u64 (b : Int), .bool z] 62))
     have HKB : Hid ((k + 1) * 32 ≤ 140737488355328) := Lib.hid (by have := HK.out.1; omega)
     simp only [LV.agg]
     clear hr hf
     go_wp2_with (at_builtin; go_must (refine wpList_appLV rfl (.tmp 18) (.tmp 22) rfl _ k xs rfl HO3.out w3.heap.size 1 ⟨t, a, b, z⟩ rfl HB3.out (HIN.out _ _) HKB.out ?_); intro v1 w4 hown hgrow; have HO4 := Lib.hid hown; have HG4 := Lib.hid hgrow; clear hown hgrow)
     go_roundw
     case rel =>
      refine ⟨q', k + 1, xs ++ [⟨t, a, b, z⟩], o2, m2, HQX.out, by go_num, HO4.out.mono (fun b _ hb => ?_) (fun b _ hb => hb.1) (fun _ _ hn => hn), HR3.out.grown HG4.out (fun q hq => HO3.out.2.2.1 q hq), HSM2.out, ?_, fun ho => ?_⟩
      ·rcases hb with hb | hb
       ·exact hb
       ·exact Nat.le_trans HR3.out.size hb
      ·have := HKM.out; omega
      ·have := HKM.out; have := HLS.out ho; omega
     case measure => simp [intOf]
end Go.Proofs.YtdhgbkibbileiaaGreat
