/-
  THE WALK OF THE DOCUMENT's Decode.
-/
import Derived.Test.YtajmpoanmdgmpaaPX
import Derived.Test.YtajmpoanmdgmpaaPO
namespace Go.Proofs.Ytajmpoanmdgmpaa
open Go.RowKit

attribute [local go_sem high] run_neqL run_eqL
/-- what goes on while cells are read -/
structure QL (W wr : World) (S : Nat → Prop) (g : Nat) (z pb k s x : Nat) (ok4 : Bool) (l4 : List Nat) (j : Nat) (vA : Option Addr) (vc : Nat) (SO T : Nat → Prop) (lk : List CV) : Prop where
  o : OwC wr SO T (.slice vA j vc) j lk
  e : lk.map CV.e = (rcs ok4 l4 j).1
  d : Qd wr S g (rcs ok4 l4 j).2.1 (rcs ok4 l4 j).2.2
  b : Blk wr pb 26 (pbk k s x (.slice vA j vc))
  so : ∀ b, SO b → W.heap.size ≤ b ∧ b ≠ pb
  t : ∀ b, T b → W.heap.size ≤ b ∧ b ≠ pb
  dis : ∀ b, S b → ¬ (SO b ∨ T b)
  f : Fr W wr S
  r : Blk wr z 26 #[.int .i64 0, .int .u64 0, .int .u32 0, .slice none 0 0]
theorem qfixed_at (w : World) (S : Nat → Prop) (g : Nat) (ok : Bool) (l : List Nat) (k : Nat) (kk : Int) (hkk : (k : Int) = kk) (hk : k ≤ 8) (h : Qd w S g ok l) :
    Calls Try.prog 58 #[qp g, .int .i64 kk] w fun e w' => e = .returned (.int .u64 ((valO ok (fixO l k) 0 : Nat) : Int)) ∧ Gq w S g ok l (fixO l k) w' := by
  rw [← hkk]
  exact qfixed_any w S g ok l k hk h
theorem rcell_zero {ok ok1 : Bool} {l l1 : List Nat} {n : Nat} (h : n = valO ok (fixO l 2) 0) (h1 : l1 = leftO ok l (fixO l 2)) (h2 : ok1 = okO ok (fixO l 2)) (h0 : n = 0) : rcell ok l = ⟨⟨false, 0, []⟩, ok1, l1⟩ := by
  subst h1 h2
  unfold rcell
  simp only
  rw [← h, if_pos h0]
theorem rcell_pos {ok ok1 ok2 : Bool} {l l1 l2 d : List Nat} {n k : Nat} (h : n = valO ok (fixO l 2) 0) (h1 : l1 = leftO ok l (fixO l 2)) (h2 : ok1 = okO ok (fixO l 2)) (h0 : ¬ n = 0)
    (h3 : k = valO ok1 (fixO l1 4) 0) (h4 : l2 = leftO ok1 l1 (fixO l1 4)) (h5 : ok2 = okO ok1 (fixO l1 4)) (h6 : d = valO ok2 (takeO l2 n) []) : rcell ok l = ⟨⟨true, k, d⟩, okO ok2 (takeO l2 n), leftO ok2 l2 (takeO l2 n)⟩ := by
  subst h1 h2 h3 h4 h5 h6
  unfold rcell
  simp only
  rw [← h, if_neg h0]
set_option maxRecDepth 100000 in
theorem rdecode_short (w : World) (A : Option Addr) (n c : Nat) (l : List Nat) (hl : l.length = n) (hn : n ≠ 512) : Calls Try.prog 27 #[.slice A n c] w (DecR w l) := by
  have HDF : Hid (decOK l = false) := by unfold decOK; rw [decide_eq_false (by omega)]; exact Lib.hid rfl
  have hbr := Blk.new w 26 #[.int .i64 0, .int .u64 0, .int .u32 0, .slice none 0 0]
  have hBW : Below w.heap.size w (w.alloc (.cells #[.int .i64 0, .int .u64 0, .int .u32 0, .slice none 0 0] 26)) := (Below.refl _ _).alloc (Nat.le_refl _) _
  obtain ⟨W, hW⟩ : ∃ W, w.alloc (.cells #[.int .i64 0, .int .u64 0, .int .u32 0, .slice none 0 0] 26) = W := ⟨_, rfl⟩
  rw [hW] at hbr hBW
  have HBW := Lib.hid hBW
  have z0 : ((n : Int) != 512) = true := bne_iff_ne.2 (by omega)
  clear hl hn hBW
  have r0 := hbr.cell 0
  have r1 := hbr.cell 1
  have r2 := hbr.cell 2
  have r3 := hbr.cell 3
  have q0 := hbr.frozen 0
  have q1 := hbr.frozen 1
  have q2 := hbr.frozen 2
  have q3 := hbr.frozen 3
  simp only [List.getElem?_toArray, List.getElem?_cons_zero, List.getElem?_cons_succ] at r0 r1 r2 r3
  obtain ⟨G, hG⟩ : ∃ G, (((W.setCell ⟨w.heap.size, 0, none⟩ (.int .i64 0)).setCell ⟨w.heap.size, 1, none⟩ (.int .u64 0)).setCell ⟨w.heap.size, 2, none⟩ (.int .u32 0)).setCell ⟨w.heap.size, 3, none⟩ (.slice none 0 0) = G := ⟨_, rfl⟩
  have hbg : Blk G w.heap.size 26 #[.int .i64 0, .int .u64 0, .int .u32 0, (.slice none 0 0)] := by rw [← hG]; exact (((hbr.set_ 0 _).set_ 1 _).set_ 2 _).set_ 3 _
  have hfG : Fr W G (fun b => b = w.heap.size) := by
    rw [← hG]
    exact fr_set (fr_set (fr_set (fr_set (Fr.refl _ _) _ _) _ _) _ _) _ _
  have g0 := hbg.cell 0
  have g1 := hbg.cell 1
  have g2 := hbg.cell 2
  have g3 := hbg.cell 3
  simp only [List.getElem?_toArray, List.getElem?_cons_zero, List.getElem?_cons_succ] at g0 g1 g2 g3
  have HFG := Lib.hid hfG
  clear hbg hfG
  go_enter Try.func27, Try.ntmps27
  go_wp2_with fail
  refine bodyPost_ret (v := .tuple #[PV.zero.agg, .bool false]) (by simp [results, Try.results27, go_sem, g0, g1, g2, g3, PV.agg, PV.zero]) rfl ?_
  refine ⟨PV.zero, ?_, DecB.no HDF.out ?_⟩
  · rw [HDF.out]
  · exact HBW.out.trans (HFG.out.below (fun b hb => Nat.le_of_eq (Eq.symm hb)) HBW.out.size)
set_option maxHeartbeats 8000000 in
set_option maxRecDepth 100000 in
theorem rdecode_full (w : World) (A : Option Addr) (n c : Nat) (l : List Nat) (hr : RB w All A n l) (hn : n = 512) (hnc : n ≤ c) : Calls Try.prog 27 #[.slice A n c] w (DecR w l) := by
  have hll := hr.len
  have hlt := hr.lt
  have hbr := Blk.new w 26 #[.int .i64 0, .int .u64 0, .int .u32 0, .slice none 0 0]
  have hBW : Below w.heap.size w (w.alloc (.cells #[.int .i64 0, .int .u64 0, .int .u32 0, .slice none 0 0] 26)) := (Below.refl _ _).alloc (Nat.le_refl _) _
  obtain ⟨W, hW⟩ : ∃ W, w.alloc (.cells #[.int .i64 0, .int .u64 0, .int .u32 0, .slice none 0 0] 26) = W := ⟨_, rfl⟩
  rw [hW] at hbr hBW
  have hsz : W.heap.size = w.heap.size + 1 := by rw [← hW]; simp
  have hrW : RB W (fun b => b < w.heap.size) A n l := (hr.mono (T := fun b => b < w.heap.size) fun b hb _ => hb).keep (Fr.of_below hBW No) fun _ _ hn => hn
  have HBW := Lib.hid hBW
  have HBR := Lib.hid hbr
  have HSZ := Lib.hid hsz
  have HRW := Lib.hid hrW
  have HLT := Lib.hid hlt
  have HLL := Lib.hid hll
  have z0 : ((n : Int) != 512) = false := bne_eq_false_iff_eq.2 (by omega)
  obtain ⟨ad, rfl⟩ : ∃ ad, A = some ad := by
    obtain ⟨ad, e, _⟩ := hr.2.2 (by omega)
    exact ⟨ad, e⟩
  have hT : RB W All (some ⟨ad.block, ad.off + 4, none⟩) (n - 4) (l.drop 4) := by
    have := (hrW.mono (T := All) fun _ _ _ => trivial).drop (k := 4) (c := c) (by omega) hnc
    rw [if_neg (by omega)] at this
    simpa [Addr.add] using this
  have HCP := Lib.hid (copy_any W All (some ⟨ad.block, ad.off + 4, none⟩) (n - 4) (c - 4) (l.drop 4) hT (by omega))
  have hn4 : (4 : Int) ≤ (n : Int) := by omega
  have hnc' : (n : Int) ≤ (c : Int) := by omega
  have h4c : ¬ (c = 4) := by omega
  have HNC := Lib.hid (show 4 ≤ n ∧ n ≤ c ∧ n = 512 from ⟨by omega, hnc, hn⟩)
  clear hll hlt hbr hBW hsz hrW hr hn hT
  go_enter Try.func27, Try.ntmps27
  go_wp2_with fail
  with_reducible refine HCP.out.mono ?_
  rintro e w1 ⟨v1, rfl, ho1, hb1⟩
  have hl1 : (l.drop 4).length ≤ 140737488351232 := by rw [List.length_drop, HLL.out]; have := HNC.out; omega
  obtain ⟨n1, hn1⟩ : ∃ n1, n1 = (l.drop 4).length := ⟨_, rfl⟩
  rw [← hn1] at ho1 hl1
  obtain ⟨A1, c1, rfl, hc1, _, hr1⟩ := ho1.reads
  have hsz1 := hb1.size
  obtain ⟨g, hg⟩ : ∃ g, g = w1.heap.size := ⟨_, rfl⟩
  obtain ⟨W2, hW2⟩ : ∃ W2, w1.alloc (.cells #[.slice A1 n1 c1, .bool false] 82) = W2 := ⟨_, rfl⟩
  have hd2 : Qd W2 (fun b => W.heap.size ≤ b ∧ b < W2.heap.size) g true (l.drop 4) := by
    rw [← hW2, hg]
    refine ⟨⟨hsz1, by simp⟩, A1, n1, c1, Blk.new w1 82 _, ?_, hc1, hl1⟩
    exact (hr1.mono (T := fun b => (W.heap.size ≤ b ∧ b < (w1.alloc (.cells #[.slice A1 n1 c1, .bool false] 82)).heap.size) ∧ b ≠ w1.heap.size) fun b hb hS => ⟨⟨hS, by simp; omega⟩, by omega⟩).alloc _
  have hb2 : Below W.heap.size W W2 := by rw [← hW2]; exact hb1.alloc hsz1 _
  obtain ⟨SR, hSR⟩ : ∃ SR : Nat → Prop, SR = fun b => W.heap.size ≤ b ∧ b < W2.heap.size := ⟨_, rfl⟩
  rw [← hSR] at hd2
  have HSR := Lib.hid (show ∀ b, SR b → W.heap.size ≤ b ∧ b < W2.heap.size by rw [hSR]; exact fun b hb => hb)
  have HB2 := Lib.hid hb2
  have HQ1 := Lib.hid (qfixed_at W2 SR g true (l.drop 4) 1 1 rfl (by omega) hd2)
  have hk1 := fix_lt 1 true (l.drop 4) (Qd.lt hd2)
  obtain ⟨k, hk⟩ : ∃ k, k = valO true (fixO (l.drop 4) 1) 0 := ⟨_, rfl⟩
  obtain ⟨l1, hl1⟩ : ∃ l1, l1 = leftO true (l.drop 4) (fixO (l.drop 4) 1) := ⟨_, rfl⟩
  obtain ⟨ok1, hok1⟩ : ∃ ok1, ok1 = okO true (fixO (l.drop 4) 1) := ⟨_, rfl⟩
  have EK := Lib.hid (show k = _ ∧ l1 = _ ∧ ok1 = _ from ⟨hk, hl1, hok1⟩)
  unfold Gq at HQ1
  rw [← hk, ← hl1, ← hok1] at HQ1
  rw [← hk] at hk1
  clear hk hl1 hok1
  have hwk : IntKind.i64.wrap (k : Int) = (k : Int) := IntWalk.i64_in _ (by omega)
  have HK1 := Lib.hid hk1
  clear ho1 hb1 hr1 hd2 hb2 hSR hk1 hsz1 hl1 hn1
  simp only [qp] at HQ1
  subst hg
  go_wp2_with fail
  with_reducible refine HQ1.out.mono ?_
  rintro e w3 ⟨rfl, hd3, hf3⟩
  obtain ⟨g, hg⟩ : ∃ g, g = w1.heap.size := ⟨_, rfl⟩
  rw [← hg] at hd3
  obtain ⟨P, hP⟩ : ∃ P, w3.alloc (.cells #[.int .i64 (k : Int), .int .u64 0, .int .u32 0, .slice none 0 0] 26) = P := ⟨_, rfl⟩
  have hfP : Fr w3 P No := by rw [← hP]; exact (Fr.refl w3 No).alloc _
  have hbP : Blk P w3.heap.size 26 (pbk k 0 0 (.slice none 0 0)) := by rw [← hP]; exact Blk.new w3 26 _
  obtain ⟨pb, hpb⟩ : ∃ pb, pb = w3.heap.size := ⟨_, rfl⟩
  have hw23 := hf3.size
  have HSX := Lib.hid (show ∀ b, SR b → b < w3.heap.size from fun b hb => Nat.lt_of_lt_of_le (HSR.out b hb).2 hw23)
  have hdP := Qd.keep hd3 hfP fun _ _ hn => hn
  have HQ2 := Lib.hid (qfixed_at P SR g ok1 l1 1 1 rfl (by omega) hdP)
  have hm1 := fix_lt 1 ok1 l1 (Qd.lt hdP)
  obtain ⟨m, hm⟩ : ∃ m, m = valO ok1 (fixO l1 1) 0 := ⟨_, rfl⟩
  obtain ⟨l2, hl2⟩ : ∃ l2, l2 = leftO ok1 l1 (fixO l1 1) := ⟨_, rfl⟩
  obtain ⟨ok2, hok2⟩ : ∃ ok2, ok2 = okO ok1 (fixO l1 1) := ⟨_, rfl⟩
  have EN := Lib.hid (show m = _ ∧ l2 = _ ∧ ok2 = _ from ⟨hm, hl2, hok2⟩)
  unfold Gq at HQ2
  rw [← hm, ← hl2, ← hok2] at HQ2
  rw [← hm] at hm1
  clear hm hl2 hok2
  have hwm : IntKind.i64.wrap (m : Int) = (m : Int) := IntWalk.i64_in _ (by omega)
  have HFP : Hid (Fr W P SR) := Lib.hid (((Fr.of_below HB2.out SR).trans hf3 fun _ hb => Or.inl hb).trans hfP fun _ hb => hb.elim)
  have HBP := Lib.hid hbP
  have HN1 := Lib.hid hm1
  have HZ3 := Lib.hid (show W.heap.size ≤ w3.heap.size from Nat.le_trans HB2.out.size hw23)
  clear hd3 hf3 hfP hbP hm1 hdP hw23
  simp only [qp] at HQ2
  rw [hg] at HQ2
  subst hP
  go_wp2_with fail
  with_reducible refine HQ2.out.mono ?_
  rintro e w4 ⟨rfl, hd4, hf4⟩
  rw [← hg] at hd4
  have hbp4 := HBP.out.keep hf4 (fun hs => by have := HSX.out _ hs; omega)
  have HQ3 := Lib.hid (qfixed_at w4 SR g ok2 l2 8 8 rfl (by omega) hd4)
  have hs1 := fix_lt 8 ok2 l2 (Qd.lt hd4)
  obtain ⟨s, hs⟩ : ∃ s, s = valO ok2 (fixO l2 8) 0 := ⟨_, rfl⟩
  obtain ⟨l3, hl3⟩ : ∃ l3, l3 = leftO ok2 l2 (fixO l2 8) := ⟨_, rfl⟩
  obtain ⟨ok3, hok3⟩ : ∃ ok3, ok3 = okO ok2 (fixO l2 8) := ⟨_, rfl⟩
  have ES := Lib.hid (show s = _ ∧ l3 = _ ∧ ok3 = _ from ⟨hs, hl3, hok3⟩)
  unfold Gq at HQ3
  rw [← hs, ← hl3, ← hok3] at HQ3
  rw [← hs] at hs1
  clear hs hl3 hok3
  have HF4 := Lib.hid (HFP.out.trans hf4 fun _ hb => Or.inl hb)
  have HBP4 := Lib.hid hbp4
  have HS1 := Lib.hid hs1
  clear hd4 hf4 hbp4 hs1
  simp only [qp] at HQ3
  rw [hg] at HQ3
  go_wp2_with fail
  with_reducible refine HQ3.out.mono ?_
  rintro e w5 ⟨rfl, hd5, hf5⟩
  rw [← hg] at hd5
  have hbp5 := HBP4.out.keep hf5 (fun hs => by have := HSX.out _ hs; omega)
  have p1 := hbp5.cell 1
  have f1 := hbp5.frozen 1
  simp only [pbk, List.getElem?_toArray, List.getElem?_cons_zero, List.getElem?_cons_succ] at p1
  obtain ⟨W5, hW5⟩ : ∃ W5, w5.setCell ⟨w3.heap.size, 1, none⟩ (.int .u64 (s : Int)) = W5 := ⟨_, rfl⟩
  have hbp5' : Blk W5 w3.heap.size 26 (pbk k s 0 (.slice none 0 0)) := by rw [← hW5]; exact hbp5.set_ 1 _
  have hf5' : Fr w5 W5 (fun b => b = w3.heap.size) := by rw [← hW5]; exact fr_set (Fr.refl _ _) _ _
  have hd5' : Qd W5 SR g ok3 l3 := Qd.keep hd5 hf5' fun b hb e => by have := HSX.out b hb; omega
  have HQ4 := Lib.hid (qfixed_at W5 SR g ok3 l3 4 4 rfl (by omega) hd5')
  have hx1 := fix_lt 4 ok3 l3 (Qd.lt hd5')
  obtain ⟨x, hx⟩ : ∃ x, x = valO ok3 (fixO l3 4) 0 := ⟨_, rfl⟩
  obtain ⟨l4, hl4⟩ : ∃ l4, l4 = leftO ok3 l3 (fixO l3 4) := ⟨_, rfl⟩
  obtain ⟨ok4, hok4⟩ : ∃ ok4, ok4 = okO ok3 (fixO l3 4) := ⟨_, rfl⟩
  have EX := Lib.hid (show x = _ ∧ l4 = _ ∧ ok4 = _ from ⟨hx, hl4, hok4⟩)
  unfold Gq at HQ4
  rw [← hx, ← hl4, ← hok4] at HQ4
  rw [← hx] at hx1
  clear hx hl4 hok4
  have hwx : IntKind.u32.wrap (x : Int) = (x : Int) := by rw [IntKind.wrap_u32]; omega
  have HU := Lib.hid (rpage_of EK.out.1 EK.out.2.1 EK.out.2.2 EN.out.1 EN.out.2.1 EN.out.2.2 ES.out.1 ES.out.2.1 ES.out.2.2 EX.out.1 EX.out.2.1 EX.out.2.2)
  have HF5 : Hid (Fr W W5 SR) := Lib.hid ((HF4.out.trans hf5 fun _ hb => Or.inl hb).trans hf5' fun b hb => Or.inr (by have := HZ3.out; omega))
  have HBP5 := Lib.hid hbp5'
  have HX1 := Lib.hid hx1
  clear hd5 hf5 hbp5 hbp5' hf5' hd5' hx1
  simp only [qp] at HQ4
  rw [hg] at HQ4
  go_wp2_with fail
  with_reducible refine HQ4.out.mono ?_
  rintro e w6 ⟨rfl, hd6, hf6⟩
  rw [← hg] at hd6
  have hbp6 := HBP5.out.keep hf6 (fun hs => by have := HSX.out _ hs; omega)
  have p2 := hbp6.cell 2
  have f2 := hbp6.frozen 2
  simp only [pbk, List.getElem?_toArray, List.getElem?_cons_zero, List.getElem?_cons_succ] at p2
  obtain ⟨W6, hW6⟩ : ∃ W6, w6.setCell ⟨w3.heap.size, 2, none⟩ (.int .u32 (x : Int)) = W6 := ⟨_, rfl⟩
  have hbp6' : Blk W6 w3.heap.size 26 (pbk k s x (.slice none 0 0)) := by rw [← hW6]; exact hbp6.set_ 2 _
  have hf6' : Fr w6 W6 (fun b => b = w3.heap.size) := by rw [← hW6]; exact fr_set (Fr.refl _ _) _ _
  have hd6' : Qd W6 SR g ok4 l4 := Qd.keep hd6 hf6' fun b hb e => by have := HSX.out b hb; omega
  have HF6 : Hid (Fr W W6 SR) := Lib.hid ((HF5.out.trans hf6 fun _ hb => Or.inl hb).trans hf6' fun b hb => Or.inr (by have := HZ3.out; omega))
  have HBP6 := Lib.hid hbp6'
  have HD6 := Lib.hid hd6'
  have HBR6 := Lib.hid (HBR.out.keep HF6.out fun h => by have := (HSR.out _ h).1; have := HSZ.out; omega)
  have hm256 : m < 256 := by have := HN1.out; omega
  clear hd6 hf6 hbp6 hbp6' hf6' hd6' p1 f1
  have HPB := Lib.hid hpb
  go_wp2_with fail
  go_loopw [7] (fun i wr => ∃ (j : Nat) (vA : Option Addr) (vc : Nat) (SO T : Nat → Prop) (lk : List CV), j ≤ m ∧ i = .int .i64 (j : Int) ∧ QL W wr SR g w.heap.size w3.heap.size k s x ok4 l4 j vA vc SO T lk) (fun i _ => m - (intOf i).toNat)
  case atStart => exact ⟨0, none, 0, fun b => w3.heap.size < b, fun b => w3.heap.size < b, [], by omega, rfl, ⟨OwC.nil_ _ _ _, rfl, HD6.out, HBP6.out, fun b h => ⟨by have := HZ3.out; omega, by omega⟩, fun b h => ⟨by have := HZ3.out; omega, by omega⟩, fun b h h2 => by have := HSX.out b h; rcases h2 with h2 | h2 <;> omega, HF6.out, HBR6.out⟩⟩
  case round =>
    obtain ⟨j, vA, vc, SO, T, lk, hj, rfl, hql⟩ := hrel
    have HC := Lib.hid hql
    have hszr := hql.f.size
    obtain ⟨y0, y1, y2, y3⟩ := pbk_cells hql.b
    obtain ⟨_, qA, qn, qc, hqb, _, _, _⟩ := hql.d
    have b1 := hqb.cell 1
    simp only [List.getElem?_toArray, List.getElem?_cons_zero, List.getElem?_cons_succ] at b1
    rw [hg] at b1
    have HWm : Hid (w3.heap.size < wr.heap.size) := hql.b.lt
    clear hql hqb
    obtain ⟨okj, hokj⟩ : ∃ okj, okj = (rcs ok4 l4 j).2.1 := ⟨_, rfl⟩
    rw [← hokj] at b1
    have HOK := Lib.hid hokj
    clear hokj
    by_cases hlt : j < m
    · have hin : ((j : Int) < (m : Int)) := by omega
      have hWi : IntKind.i64.wrap ((j : Int) + 1) = ((j + 1 : Nat) : Int) := by rw [IntWalk.i64_in _ (by omega)]; omega
      cases okj with
      | true =>
        simp only [Bool.not_true] at b1
        obtain ⟨lj, hlj⟩ : ∃ lj, lj = (rcs ok4 l4 j).2.2 := ⟨_, rfl⟩
        have hdj : Qd wr SR g true lj := by
          have h := HC.out.d
          rw [← HOK.out, ← hlj] at h
          exact h
        have HLJ := Lib.hid hlj
        have HNS : Hid (¬ SR w3.heap.size) := fun h => by have := HSX.out _ h; omega
        have HNO : Hid (¬ SO w3.heap.size) := fun h => (HC.out.so _ h).2 rfl
        have HDIS := Lib.hid HC.out.dis
        have HSO : Hid (∀ b, SR b → ¬ SO b) := fun b h1 h2 => HDIS.out b h1 (Or.inl h2)
        have HSTT : Hid (∀ b, SR b → ¬ T b) := fun b h1 h2 => HDIS.out b h1 (Or.inr h2)
        obtain ⟨D, hD⟩ : ∃ D, wr.alloc (.cells #[.bool false, .int .u32 0, .slice none 0 0] 58) = D := ⟨_, rfl⟩
        have hfD : Fr wr D No := by rw [← hD]; exact (Fr.refl wr No).alloc _
        have hbD : Blk D wr.heap.size 58 #[.bool false, .int .u32 0, .slice none 0 0] := by rw [← hD]; exact Blk.new wr 58 _
        have hzD : D.heap.size = wr.heap.size + 1 := by rw [← hD]; simp
        have hdD := Qd.keep hdj hfD fun _ _ hn => hn
        have HQ5 := Lib.hid (qfixed_at D SR g true lj 2 2 rfl (by omega) hdD)
        have hsz1 := fix_lt 2 true lj (Qd.lt hdD)
        obtain ⟨sz, hsz⟩ : ∃ sz, sz = valO true (fixO lj 2) 0 := ⟨_, rfl⟩
        obtain ⟨l5, hl5⟩ : ∃ l5, l5 = leftO true lj (fixO lj 2) := ⟨_, rfl⟩
        obtain ⟨ok5, hok5⟩ : ∃ ok5, ok5 = okO true (fixO lj 2) := ⟨_, rfl⟩
        have EC := Lib.hid (show sz = _ ∧ l5 = _ ∧ ok5 = _ from ⟨hsz, hl5, hok5⟩)
        unfold Gq at HQ5
        rw [← hsz, ← hl5, ← hok5] at HQ5
        rw [← hsz] at hsz1
        clear hsz hl5 hok5
        have hsz2 : sz < 65536 := by omega
        have hwz : IntKind.i64.wrap (sz : Int) = (sz : Int) := IntWalk.i64_in _ (by omega)
        have HFD := Lib.hid hfD
        have HBD := Lib.hid hbD
        have HZD := Lib.hid hzD
        have HSZ2 := Lib.hid hsz2
        simp only [qp] at HQ5
        rw [hg] at HQ5
        clear hlj hdj hfD hbD hzD hdD hsz1 hsz2
        subst hD
        go_wp2_with fail
        with_reducible refine HQ5.out.mono ?_
        rintro e w7 ⟨rfl, hd7, hf7⟩
        rw [← hg] at hd7
        by_cases h0 : sz = 0
        · have z0 : decide ((sz : Int) > 0) = false := decide_eq_false (by omega)
          have z2 : decide (0 < sz) = false := decide_eq_false (by omega)
          have HR := Lib.hid (rcell_zero EC.out.1 EC.out.2.1 EC.out.2.2 h0)
          have HFX : Hid (Fr wr w7 SR) := Lib.hid ((HFD.out.mono (T := SR) fun _ _ hn => hn.elim).trans hf7 fun _ hb => Or.inl hb)
          have HCB := Lib.hid (HBD.out.keep hf7 fun h => by have := HSX.out _ h; have := HWm.out; omega)
          have HDX := Lib.hid hd7
          have HXIN : Hid (CV.In w7 (fun b => (T b ∧ b < wr.heap.size) ∨ (wr.heap.size ≤ b ∧ b < w7.heap.size)) ⟨false, 0, none, 0, 0, []⟩) := ⟨RB.nil_, by simp only; omega, by simp only; omega, by simp only; omega, fun _ => rfl⟩
          have HOWX := Lib.hid (show OwC w7 (fun b => SO b ∧ b < wr.heap.size) (fun b => (T b ∧ b < wr.heap.size) ∨ (wr.heap.size ≤ b ∧ b < w7.heap.size)) (.slice vA j vc) j lk from
            (HC.out.o.mono (S' := fun b => SO b ∧ b < wr.heap.size) (T' := fun b => (T b ∧ b < wr.heap.size) ∨ (wr.heap.size ≤ b ∧ b < w7.heap.size)) (fun b hlt hb => ⟨hb, hlt⟩) (fun b hlt hb => Or.inl ⟨hb, hlt⟩) (fun q hq hT => by
              have h1 := (HC.out.o.1.lt q hq).2
              rcases hT with hT | hT
              · exact HC.out.o.2.2.2 q hq hT.1
              · omega)).keep HFX.out (fun b hb h => HSO.out b h hb.1) (fun b hb h => by
                rcases hb with hb | hb
                · exact HSTT.out b h hb.1
                · have := HSX.out b h; have := HWm.out; omega))
          clear h0 hf7 hd7 y0 y1 y2 y3 b1
          have HONE := Lib.hid (CR.one w7 All _ ⟨false, 0, none, 0, 0, []⟩ w7.heap.size rfl trivial HXIN.out)
          have HOWN := Lib.hid (HOWX.out.alloc (.cells #[.bool false, .int .u32 (0 : Int), .slice none 0 0] 58))
          have HB2 := Lib.hid (HC.out.b.keep HFX.out HNS.out)
          have n3 := HB2.out.cell 3
          simp only [pbk, List.getElem?_toArray, List.getElem?_cons_zero, List.getElem?_cons_succ] at n3
          have c0 := HCB.out.cell 0
          have c1' := HCB.out.cell 1
          have c2 := HCB.out.cell 2
          simp only [List.getElem?_toArray, List.getElem?_cons_zero, List.getElem?_cons_succ] at c0 c1' c2
          go_wp2_with (at_builtin; go_must (refine wpList_appC rfl (.tmp 61) (.tmp 63) rfl (.slice vA j vc) j lk rfl HOWN.out (some ⟨w7.heap.size, 0, none⟩) 1 1 [⟨false, 0, none, 0, 0, []⟩] rfl HONE.out (by omega) ?_); intro v1 w4' hown4 hgrow; obtain ⟨A4, c4, rfl, _, _, _, _⟩ := hown4.reads (by omega); have hb4 : Blk w4' w3.heap.size 26 (pbk k s x (.slice vA j vc)) := (HB2.out.alloc (.cells #[.bool false, .int .u32 (0 : Int), .slice none 0 0] 58)).keep ((Fr.refl _ (fun b => SO b)).grown hgrow fun q hq => Or.inl (HOWN.out.2.2.1 q hq).1) HNO.out; have n3' := hb4.cell 3; have z3 := hb4.frozen 3; simp only [pbk, List.getElem?_toArray, List.getElem?_cons_zero, List.getElem?_cons_succ] at n3'; have HO4 := Lib.hid hown4; have HG4 := Lib.hid hgrow; have HB4 := Lib.hid hb4; clear hown4 hgrow hb4)
          obtain ⟨W5', hW5'⟩ : ∃ W5', w4'.setCell ⟨w3.heap.size, 3, none⟩ (.slice A4 (j + 1) c4) = W5' := ⟨_, rfl⟩
          have HB5 := Lib.hid (show Blk W5' w3.heap.size 26 (pbk k s x (.slice A4 (j + 1) c4)) by rw [← hW5']; exact HB4.out.set_ 3 _)
          have HF5' := Lib.hid (show Fr w4' W5' (fun b => b = w3.heap.size) by rw [← hW5']; exact fr_set (Fr.refl _ _) _ _)
          clear n3 n3' z3
          go_roundw
          case rel =>
            rw [hW5']
            have hws : W.heap.size ≤ wr.heap.size := HC.out.f.size
            have hwx : wr.heap.size ≤ w7.heap.size := HFX.out.size
            have hfa : Fr w7 w4' (fun b => SO b) := ((Fr.refl w7 (fun b => SO b)).alloc _).grown HG4.out fun q hq => Or.inl (HOWN.out.2.2.1 q hq).1
            have hx4 : w7.heap.size + 1 ≤ w4'.heap.size := by have := HG4.out.size; simpa using this
            refine ⟨j + 1, A4, c4, fun b => (SO b ∧ b < wr.heap.size) ∨ w7.heap.size + 1 ≤ b ∧ b < w4'.heap.size, fun b => ((T b ∧ b < wr.heap.size) ∨ (wr.heap.size ≤ b ∧ b < w7.heap.size)) ∧ b < w7.heap.size + 1, lk ++ [⟨false, 0, none, 0, 0, []⟩], by omega, by go_num, ?_⟩
            refine ⟨?_, ?_, ?_, HB5.out, ?_, ?_, ?_, ?_, ?_⟩
            · refine (HO4.out.mono (S' := fun b => (SO b ∧ b < wr.heap.size) ∨ w7.heap.size + 1 ≤ b ∧ b < w4'.heap.size) (T' := fun b => ((T b ∧ b < wr.heap.size) ∨ (wr.heap.size ≤ b ∧ b < w7.heap.size)) ∧ b < w7.heap.size + 1) (fun b hlt hb => ?_) (fun b hlt hb => ?_) (fun q hq hT => ?_)).keep HF5'.out (fun b hb e => ?_) (fun b hb e => ?_)
              · rcases hb with hb | hb
                · exact Or.inl hb
                · exact Or.inr ⟨by simpa using hb, hlt⟩
              · exact ⟨hb.1, by have := hb.2; simpa using this⟩
              · exact HO4.out.2.2.2 q hq ⟨hT.1, by have := hT.2; simpa using this⟩
              · subst e
                rcases hb with hb | hb
                · exact (HC.out.so _ hb.1).2 rfl
                · have := HB2.out.lt; omega
              · subst e
                rcases hb.1 with hb | hb
                · exact (HC.out.t _ hb.1).2 rfl
                · have := HWm.out; omega
            · rw [List.map_append, HC.out.e]
              rw [rcs_succ, ← HOK.out, ← HLJ.out, HR.out]
              simp [CV.e]
            · rw [rcs_succ, ← HOK.out, ← HLJ.out, HR.out]
              refine (Qd.keep HDX.out hfa fun b hb h => ?_).keep HF5'.out fun b hb e => ?_
              · have := (HSR.out b hb).2; exact HSO.out b hb h
              · have := HSX.out b hb; omega
            · intro b hb
              rcases hb with hb | hb
              · exact HC.out.so b hb.1
              · have := HB2.out.lt; omega
            · intro b hb
              rcases hb.1 with hb | hb
              · exact HC.out.t b hb.1
              · have := HWm.out; omega
            · intro b h1 h2
              rcases h2 with h2 | h2
              · rcases h2 with h2 | h2
                · exact HSO.out b h1 h2.1
                · have := HSX.out b h1; have := HWm.out; omega
              · rcases h2.1 with h2 | h2
                · exact HSTT.out b h1 h2.1
                · have := HSX.out b h1; have := HWm.out; omega
            · exact ((HC.out.f.trans HFX.out fun _ hb => Or.inl hb).trans hfa fun b hb => Or.inr (HC.out.so b hb).1).trans HF5'.out fun b hb => Or.inr (by have := HZ3.out; omega)
            · refine ((HC.out.r.keep HFX.out fun h => by have := (HSR.out _ h).1; have := HSZ.out; omega).keep hfa fun h => by have := (HC.out.so _ h).1; have := HSZ.out; omega).keep HF5'.out fun e => by have := HZ3.out; have := HSZ.out; omega
          case measure => simp [intOf]; omega
        · have z0 : decide ((sz : Int) > 0) = true := decide_eq_true (by omega)
          have z2 : decide (0 < sz) = true := decide_eq_true (by omega)
          have HN0 := Lib.hid h0
          have hbd7 := HBD.out.keep hf7 fun h => by have := HSX.out _ h; have := HWm.out; omega
          have u0 := hbd7.cell 0
          have fz0 := hbd7.frozen 0
          simp only [List.getElem?_toArray, List.getElem?_cons_zero] at u0
          obtain ⟨X1, hX1⟩ : ∃ X1, w7.setCell ⟨wr.heap.size, 0, none⟩ (.bool true) = X1 := ⟨_, rfl⟩
          have hbx1 : Blk X1 wr.heap.size 58 #[.bool true, .int .u32 0, .slice none 0 0] := by rw [← hX1]; exact hbd7.set_ 0 _
          have hfx1 : Fr w7 X1 (fun b => b = wr.heap.size) := by rw [← hX1]; exact fr_set (Fr.refl _ _) _ _
          have hdx1 : Qd X1 SR g ok5 l5 := Qd.keep hd7 hfx1 fun b hb e => by have := HSX.out b hb; have := HWm.out; omega
          have HQ6 := Lib.hid (qfixed_at X1 SR g ok5 l5 4 4 rfl (by omega) hdx1)
          have hkk1 := fix_lt 4 ok5 l5 (Qd.lt hdx1)
          obtain ⟨kk, hkk⟩ : ∃ kk, kk = valO ok5 (fixO l5 4) 0 := ⟨_, rfl⟩
          obtain ⟨l6, hl6⟩ : ∃ l6, l6 = leftO ok5 l5 (fixO l5 4) := ⟨_, rfl⟩
          obtain ⟨ok6, hok6⟩ : ∃ ok6, ok6 = okO ok5 (fixO l5 4) := ⟨_, rfl⟩
          have EK2 := Lib.hid (show kk = _ ∧ l6 = _ ∧ ok6 = _ from ⟨hkk, hl6, hok6⟩)
          unfold Gq at HQ6
          rw [← hkk, ← hl6, ← hok6] at HQ6
          rw [← hkk] at hkk1
          clear hkk hl6 hok6
          have hwkk : IntKind.u32.wrap (kk : Int) = (kk : Int) := by rw [IntKind.wrap_u32]; omega
          have HKK := Lib.hid hkk1
          have HFX1 : Hid (Fr wr X1 SR) := Lib.hid (((HFD.out.mono (T := SR) fun _ _ hn => hn.elim).trans hf7 fun _ hb => Or.inl hb).trans hfx1 fun b hb => Or.inr (by omega))
          have HBX1 := Lib.hid hbx1
          simp only [qp] at HQ6
          rw [hg] at HQ6
          clear h0 hf7 hd7 y0 y1 y2 y3 b1 hbd7 hbx1 hfx1 hdx1 hkk1
          go_wp2_with fail
          with_reducible refine HQ6.out.mono ?_
          rintro e w8 ⟨rfl, hd8, hf8⟩
          rw [← hg] at hd8
          have hbd8 := HBX1.out.keep hf8 fun h => by have := HSX.out _ h; have := HWm.out; omega
          have u1 := hbd8.cell 1
          have fz1 := hbd8.frozen 1
          simp only [List.getElem?_toArray, List.getElem?_cons_zero, List.getElem?_cons_succ] at u1
          obtain ⟨X2, hX2⟩ : ∃ X2, w8.setCell ⟨wr.heap.size, 1, none⟩ (.int .u32 (kk : Int)) = X2 := ⟨_, rfl⟩
          have hbx2 : Blk X2 wr.heap.size 58 #[.bool true, .int .u32 (kk : Int), .slice none 0 0] := by rw [← hX2]; exact hbd8.set_ 1 _
          have hfx2 : Fr w8 X2 (fun b => b = wr.heap.size) := by rw [← hX2]; exact fr_set (Fr.refl _ _) _ _
          have hdx2 : Qd X2 SR g ok6 l6 := Qd.keep hd8 hfx2 fun b hb e => by have := HSX.out b hb; have := HWm.out; omega
          have HTK := Lib.hid (qtake_any X2 SR g ok6 l6 (sz : Int) (by omega) (by have := HSZ2.out; omega) hdx2)
          have HFX2 : Hid (Fr wr X2 SR) := Lib.hid ((HFX1.out.trans hf8 fun _ hb => Or.inl hb).trans hfx2 fun b hb => Or.inr (by omega))
          have HBX2 := Lib.hid hbx2
          simp only [qp] at HTK
          rw [hg] at HTK
          clear hf8 hd8 hbd8 hbx2 hfx2 hdx2 u0 fz0
          go_wp2_with fail
          with_reducible refine HTK.out.mono ?_
          rintro e w9 ⟨v9, m9, rfl, hm9, ho9, hd9, hf9⟩
          rw [← hg] at hd9
          obtain ⟨d9, hd9e⟩ : ∃ d9, d9 = valO ok6 (takeO l6 (sz : Int)) [] := ⟨_, rfl⟩
          rw [← hd9e] at ho9
          have HR := Lib.hid (rcell_pos EC.out.1 EC.out.2.1 EC.out.2.2 HN0.out EK2.out.1 EK2.out.2.1 EK2.out.2.2 hd9e)
          obtain ⟨A9, c9, rfl, hmc9, hnz9, hr9⟩ := ho9.reads
          have hm9b : m9 ≤ 65536 := by
            have h1 := takeO_len ok6 l6 sz
            have := HSZ2.out
            rw [hm9]; omega
          have hbd9 := HBX2.out.keep hf9 fun h => by have := HSX.out _ h; have := HWm.out; omega
          have u2 := hbd9.cell 2
          have fz2 := hbd9.frozen 2
          simp only [List.getElem?_toArray, List.getElem?_cons_zero, List.getElem?_cons_succ] at u2
          obtain ⟨X3, hX3⟩ : ∃ X3, w9.setCell ⟨wr.heap.size, 2, none⟩ (.slice A9 m9 c9) = X3 := ⟨_, rfl⟩
          have HCB := Lib.hid (show Blk X3 wr.heap.size 58 #[.bool true, .int .u32 (kk : Int), .slice A9 m9 c9] by rw [← hX3]; exact hbd9.set_ 2 _)
          have hfx3 : Fr w9 X3 (fun b => b = wr.heap.size) := by rw [← hX3]; exact fr_set (Fr.refl _ _) _ _
          have HDX := Lib.hid (show Qd X3 SR g _ _ from Qd.keep hd9 hfx3 fun b hb e => by have := HSX.out b hb; have := HWm.out; omega)
          have HFX : Hid (Fr wr X3 SR) := Lib.hid ((HFX2.out.trans hf9 fun _ hb => Or.inl hb).trans hfx3 fun b hb => Or.inr (by omega))
          have hx29 : wr.heap.size + 1 ≤ X2.heap.size := by have := HBX2.out.lt; omega
          have hrx : RB X3 (fun b => X2.heap.size ≤ b ∧ b < X3.heap.size) A9 m9 d9 := by
            have h1 := (hr9.mono (T := fun b => X2.heap.size ≤ b ∧ b < w9.heap.size) fun b hlt hb => ⟨hb, hlt⟩).keep hfx3 fun b hb e => by omega
            exact h1.mono fun b hlt hb => ⟨hb.1, hlt⟩
          have HXIN : Hid (CV.In X3 (fun b => (T b ∧ b < wr.heap.size) ∨ (wr.heap.size ≤ b ∧ b < X3.heap.size)) ⟨true, kk, A9, m9, c9, d9⟩) := ⟨hrx.mono fun b _ hb => Or.inr ⟨by omega, hb.2⟩, HKK.out, hmc9, by simp only; omega, hnz9⟩
          have HOWX := Lib.hid (show OwC X3 (fun b => SO b ∧ b < wr.heap.size) (fun b => (T b ∧ b < wr.heap.size) ∨ (wr.heap.size ≤ b ∧ b < X3.heap.size)) (.slice vA j vc) j lk from
            (HC.out.o.mono (S' := fun b => SO b ∧ b < wr.heap.size) (T' := fun b => (T b ∧ b < wr.heap.size) ∨ (wr.heap.size ≤ b ∧ b < X3.heap.size)) (fun b hlt hb => ⟨hb, hlt⟩) (fun b hlt hb => Or.inl ⟨hb, hlt⟩) (fun q hq hT => by
              have h1 := (HC.out.o.1.lt q hq).2
              rcases hT with hT | hT
              · exact HC.out.o.2.2.2 q hq hT.1
              · omega)).keep HFX.out (fun b hb h => HSO.out b h hb.1) (fun b hb h => by
                rcases hb with hb | hb
                · exact HSTT.out b h hb.1
                · have := HSX.out b h; have := HWm.out; omega))
          clear hm9 ho9 hd9 hf9 hd9e hr9 hm9b hbd9 hfx3 hrx hx29 hmc9 hnz9 u1 fz1
          have HONE := Lib.hid (CR.one X3 All _ ⟨true, kk, A9, m9, c9, d9⟩ X3.heap.size rfl trivial HXIN.out)
          have HOWN := Lib.hid (HOWX.out.alloc (.cells #[.bool true, .int .u32 (kk : Int), .slice A9 m9 c9] 58))
          have HB2 := Lib.hid (HC.out.b.keep HFX.out HNS.out)
          have n3 := HB2.out.cell 3
          simp only [pbk, List.getElem?_toArray, List.getElem?_cons_zero, List.getElem?_cons_succ] at n3
          have c0 := HCB.out.cell 0
          have c1' := HCB.out.cell 1
          have c2 := HCB.out.cell 2
          simp only [List.getElem?_toArray, List.getElem?_cons_zero, List.getElem?_cons_succ] at c0 c1' c2
          go_wp2_with (at_builtin; go_must (refine wpList_appC rfl (.tmp 61) (.tmp 63) rfl (.slice vA j vc) j lk rfl HOWN.out (some ⟨X3.heap.size, 0, none⟩) 1 1 [⟨true, kk, A9, m9, c9, d9⟩] rfl HONE.out (by omega) ?_); intro v1 w4' hown4 hgrow; obtain ⟨A4, c4, rfl, _, _, _, _⟩ := hown4.reads (by omega); have hb4 : Blk w4' w3.heap.size 26 (pbk k s x (.slice vA j vc)) := (HB2.out.alloc (.cells #[.bool true, .int .u32 (kk : Int), .slice A9 m9 c9] 58)).keep ((Fr.refl _ (fun b => SO b)).grown hgrow fun q hq => Or.inl (HOWN.out.2.2.1 q hq).1) HNO.out; have n3' := hb4.cell 3; have z3 := hb4.frozen 3; simp only [pbk, List.getElem?_toArray, List.getElem?_cons_zero, List.getElem?_cons_succ] at n3'; have HO4 := Lib.hid hown4; have HG4 := Lib.hid hgrow; have HB4 := Lib.hid hb4; clear hown4 hgrow hb4)
          obtain ⟨W5', hW5'⟩ : ∃ W5', w4'.setCell ⟨w3.heap.size, 3, none⟩ (.slice A4 (j + 1) c4) = W5' := ⟨_, rfl⟩
          have HB5 := Lib.hid (show Blk W5' w3.heap.size 26 (pbk k s x (.slice A4 (j + 1) c4)) by rw [← hW5']; exact HB4.out.set_ 3 _)
          have HF5' := Lib.hid (show Fr w4' W5' (fun b => b = w3.heap.size) by rw [← hW5']; exact fr_set (Fr.refl _ _) _ _)
          clear n3 n3' z3
          go_roundw
          case rel =>
            rw [hW5']
            have hws : W.heap.size ≤ wr.heap.size := HC.out.f.size
            have hwx : wr.heap.size ≤ X3.heap.size := HFX.out.size
            have hfa : Fr X3 w4' (fun b => SO b) := ((Fr.refl X3 (fun b => SO b)).alloc _).grown HG4.out fun q hq => Or.inl (HOWN.out.2.2.1 q hq).1
            have hx4 : X3.heap.size + 1 ≤ w4'.heap.size := by have := HG4.out.size; simpa using this
            refine ⟨j + 1, A4, c4, fun b => (SO b ∧ b < wr.heap.size) ∨ X3.heap.size + 1 ≤ b ∧ b < w4'.heap.size, fun b => ((T b ∧ b < wr.heap.size) ∨ (wr.heap.size ≤ b ∧ b < X3.heap.size)) ∧ b < X3.heap.size + 1, lk ++ [⟨true, kk, A9, m9, c9, d9⟩], by omega, by go_num, ?_⟩
            refine ⟨?_, ?_, ?_, HB5.out, ?_, ?_, ?_, ?_, ?_⟩
            · refine (HO4.out.mono (S' := fun b => (SO b ∧ b < wr.heap.size) ∨ X3.heap.size + 1 ≤ b ∧ b < w4'.heap.size) (T' := fun b => ((T b ∧ b < wr.heap.size) ∨ (wr.heap.size ≤ b ∧ b < X3.heap.size)) ∧ b < X3.heap.size + 1) (fun b hlt hb => ?_) (fun b hlt hb => ?_) (fun q hq hT => ?_)).keep HF5'.out (fun b hb e => ?_) (fun b hb e => ?_)
              · rcases hb with hb | hb
                · exact Or.inl hb
                · exact Or.inr ⟨by simpa using hb, hlt⟩
              · exact ⟨hb.1, by have := hb.2; simpa using this⟩
              · exact HO4.out.2.2.2 q hq ⟨hT.1, by have := hT.2; simpa using this⟩
              · subst e
                rcases hb with hb | hb
                · exact (HC.out.so _ hb.1).2 rfl
                · have := HB2.out.lt; omega
              · subst e
                rcases hb.1 with hb | hb
                · exact (HC.out.t _ hb.1).2 rfl
                · have := HWm.out; omega
            · rw [List.map_append, HC.out.e]
              rw [rcs_succ, ← HOK.out, ← HLJ.out, HR.out]
              simp [CV.e]
            · rw [rcs_succ, ← HOK.out, ← HLJ.out, HR.out]
              refine (Qd.keep HDX.out hfa fun b hb h => ?_).keep HF5'.out fun b hb e => ?_
              · have := (HSR.out b hb).2; exact HSO.out b hb h
              · have := HSX.out b hb; omega
            · intro b hb
              rcases hb with hb | hb
              · exact HC.out.so b hb.1
              · have := HB2.out.lt; omega
            · intro b hb
              rcases hb.1 with hb | hb
              · exact HC.out.t b hb.1
              · have := HWm.out; omega
            · intro b h1 h2
              rcases h2 with h2 | h2
              · rcases h2 with h2 | h2
                · exact HSO.out b h1 h2.1
                · have := HSX.out b h1; have := HWm.out; omega
              · rcases h2.1 with h2 | h2
                · exact HSTT.out b h1 h2.1
                · have := HSX.out b h1; have := HWm.out; omega
            · exact ((HC.out.f.trans HFX.out fun _ hb => Or.inl hb).trans hfa fun b hb => Or.inr (HC.out.so b hb).1).trans HF5'.out fun b hb => Or.inr (by have := HZ3.out; omega)
            · refine ((HC.out.r.keep HFX.out fun h => by have := (HSR.out _ h).1; have := HSZ.out; omega).keep hfa fun h => by have := (HC.out.so _ h).1; have := HSZ.out; omega).keep HF5'.out fun e => by have := HZ3.out; have := HSZ.out; omega
          case measure => simp [intOf]; omega
      | false =>
        simp only [Bool.not_false] at b1
        have z1 := fun d os => cell_regrown b1 d os
        go_wp2_with fail
        refine wp_region_quiet_below (by kernel_rfl) (by kernel_rfl) ?_
        repeat (go_big_quiet_step (fail))
        refine wpQuiet_nil ?_
        rintro W9 ⟨pp, hpp⟩
        have HB9 := Lib.hid (show Fr wr W9 No from Fr.of_below (show Below wr.heap.size wr W9 by rw [hpp]; exact below_regrown _ _ _) No)
        clear hpp z1 y0 y1 y2 y3 b1
        have HDF := Lib.hid (show decOK l = false by
          have h1 := rcs_bad ok4 l4 j HOK.out.symm m (by omega)
          rw [dec_enc l HLT.out (by have := HLL.out; have := HNC.out; omega), HU.out]
          simp [h1])
        have hbrz := HC.out.r.keep HB9.out (fun h => h)
        have r0 := hbrz.cell 0
        have r1 := hbrz.cell 1
        have r2 := hbrz.cell 2
        have r3 := hbrz.cell 3
        have q0 := hbrz.frozen 0
        have q1 := hbrz.frozen 1
        have q2 := hbrz.frozen 2
        have q3 := hbrz.frozen 3
        simp only [List.getElem?_toArray, List.getElem?_cons_zero, List.getElem?_cons_succ] at r0 r1 r2 r3
        obtain ⟨G, hG⟩ : ∃ G, (((W9.setCell ⟨w.heap.size, 0, none⟩ (.int .i64 0)).setCell ⟨w.heap.size, 1, none⟩ (.int .u64 0)).setCell ⟨w.heap.size, 2, none⟩ (.int .u32 0)).setCell ⟨w.heap.size, 3, none⟩ (.slice none 0 0) = G := ⟨_, rfl⟩
        have hbg : Blk G w.heap.size 26 #[.int .i64 0, .int .u64 0, .int .u32 0, (.slice none 0 0)] := by rw [← hG]; exact (((hbrz.set_ 0 _).set_ 1 _).set_ 2 _).set_ 3 _
        have hfG : Fr W9 G (fun b => b = w.heap.size) := by
          rw [← hG]
          exact fr_set (fr_set (fr_set (fr_set (Fr.refl _ _) _ _) _ _) _ _) _ _
        have g0 := hbg.cell 0
        have g1 := hbg.cell 1
        have g2 := hbg.cell 2
        have g3 := hbg.cell 3
        simp only [List.getElem?_toArray, List.getElem?_cons_zero, List.getElem?_cons_succ] at g0 g1 g2 g3
        have HFG := Lib.hid hfG
        clear hbg hfG
        clear hbrz
        go_wp2_with fail
        refine bodyPost_ret (v := .tuple #[PV.zero.agg, .bool false]) (by simp [results, Try.results27, go_sem, g0, g1, g2, g3, PV.agg, PV.zero]) rfl ?_
        refine ⟨PV.zero, ?_, DecB.no HDF.out ?_⟩
        · rw [HDF.out]
        · exact endBelow HBW.out (HC.out.f.trans HB9.out fun _ hb => hb.elim) (fun b hb => (HSR.out b hb).1) HFG.out
    · have h1d : decide ((j : Int) < (m : Int)) = false := decide_eq_false (by omega)
      have h1d2 : decide (j < m) = false := decide_eq_false hlt
      have HJM := Lib.hid (show j = m by omega)
      cases okj with
      | false =>
        simp only [Bool.not_false] at b1
        have z1 := fun d os => cell_regrown b1 d os
        go_wp2_with fail
        refine wp_region_quiet_below (by kernel_rfl) (by kernel_rfl) ?_
        repeat (go_big_quiet_step (fail))
        refine wpQuiet_nil ?_
        rintro W9 ⟨pp, hpp⟩
        have HB9 := Lib.hid (show Fr wr W9 No from Fr.of_below (show Below wr.heap.size wr W9 by rw [hpp]; exact below_regrown _ _ _) No)
        clear hpp z1 y0 y1 y2 y3 b1
        have HDF := Lib.hid (show decOK l = false by
          have h1 := rcs_bad ok4 l4 j HOK.out.symm m (by omega)
          rw [dec_enc l HLT.out (by have := HLL.out; have := HNC.out; omega), HU.out]
          simp [h1])
        have hbrz := HC.out.r.keep HB9.out (fun h => h)
        have r0 := hbrz.cell 0
        have r1 := hbrz.cell 1
        have r2 := hbrz.cell 2
        have r3 := hbrz.cell 3
        have q0 := hbrz.frozen 0
        have q1 := hbrz.frozen 1
        have q2 := hbrz.frozen 2
        have q3 := hbrz.frozen 3
        simp only [List.getElem?_toArray, List.getElem?_cons_zero, List.getElem?_cons_succ] at r0 r1 r2 r3
        obtain ⟨G, hG⟩ : ∃ G, (((W9.setCell ⟨w.heap.size, 0, none⟩ (.int .i64 0)).setCell ⟨w.heap.size, 1, none⟩ (.int .u64 0)).setCell ⟨w.heap.size, 2, none⟩ (.int .u32 0)).setCell ⟨w.heap.size, 3, none⟩ (.slice none 0 0) = G := ⟨_, rfl⟩
        have hbg : Blk G w.heap.size 26 #[.int .i64 0, .int .u64 0, .int .u32 0, (.slice none 0 0)] := by rw [← hG]; exact (((hbrz.set_ 0 _).set_ 1 _).set_ 2 _).set_ 3 _
        have hfG : Fr W9 G (fun b => b = w.heap.size) := by
          rw [← hG]
          exact fr_set (fr_set (fr_set (fr_set (Fr.refl _ _) _ _) _ _) _ _) _ _
        have g0 := hbg.cell 0
        have g1 := hbg.cell 1
        have g2 := hbg.cell 2
        have g3 := hbg.cell 3
        simp only [List.getElem?_toArray, List.getElem?_cons_zero, List.getElem?_cons_succ] at g0 g1 g2 g3
        have HFG := Lib.hid hfG
        clear hbg hfG
        clear hbrz
        go_wp2_with fail
        refine bodyPost_ret (v := .tuple #[PV.zero.agg, .bool false]) (by simp [results, Try.results27, go_sem, g0, g1, g2, g3, PV.agg, PV.zero]) rfl ?_
        refine ⟨PV.zero, ?_, DecB.no HDF.out ?_⟩
        · rw [HDF.out]
        · exact endBelow HBW.out (HC.out.f.trans HB9.out fun _ hb => hb.elim) (fun b hb => (HSR.out b hb).1) HFG.out
      | true =>
        simp only [Bool.not_true] at b1
        have HQB : Hid (∃ A n c, Blk wr g 82 #[.slice A n c, .bool (!true)]) := by
          have h := HC.out.d
          rw [← HOK.out] at h
          obtain ⟨_, qA, qn, qc, hqb, _⟩ := h
          exact ⟨qA, qn, qc, hqb⟩
        obtain ⟨qA', qn', qc', hqb'⟩ := HQB.out
        have HQB := Lib.hid hqb'
        clear hqb'
        have hqo : PO wr SO T ⟨(k : Int), s, x, vA, j, vc, lk⟩ := ⟨HC.out.o, by show j ≤ _; omega, by show _ ≤ (k : Int); omega, by show (k : Int) ≤ _; have := HK1.out; omega, HS1.out, HX1.out⟩
        have hqe : (⟨(k : Int), s, x, vA, j, vc, lk⟩ : PV).es = (rcs ok4 l4 m).1 := by show lk.map CV.e = _; rw [HC.out.e, HJM.out]
        have hqd : PV.In wr.drew All All ⟨(k : Int), s, x, vA, j, vc, lk⟩ := hqo.In.all.keep (Fr.refl wr No).drew (fun _ _ hn => hn) fun _ _ hn => hn
        have hfew : Few ⟨(k : Int), s, x, vA, j, vc, lk⟩ := few_of hqo.In (by
          rw [hqe, rcs_len]; omega) (by
          rw [hqe]
          intro cc hcc
          have h2 := rpage_le true (l.drop 4) cc
          rw [HU.out] at h2
          have h3 := h2 hcc
          rw [List.length_drop, HLL.out] at h3
          have := HNC.out
          omega)
        obtain ⟨mb, hmb⟩ : ∃ mb, mb = may (k : Int) (⟨(k : Int), s, x, vA, j, vc, lk⟩ : PV).es := ⟨_, rfl⟩
        cases mb with
        | false =>
          have HEN := Lib.hid (rencode_no ⟨(k : Int), s, x, vA, j, vc, lk⟩ wr.drew hqd hfew hmb.symm)
          simp only [PV.agg] at HEN
          have hse : seq [] l = false := by
            have := seq_iff (a := []) (b := l) (by simp) HLT.out
            rw [this]
            refine decide_eq_false fun e => ?_
            have h1 := HLL.out
            rw [← e] at h1
            have := HNC.out
            simp at h1
            omega
          have HQO := Lib.hid hqo
          have HQE := Lib.hid hqe
          have HMB := Lib.hid hmb
          clear hqo hqe hqd hfew hmb
          go_wp2_with fail
          refine wp_region_held_drew (S := fun wx => Fr wr wx No) (by kernel_rfl) ((Fr.refl wr _).drew) (fun hS => ?_)
          refine wpAnyH_take (i := 0) (v := ?_) rfl (by kernel_rfl) (by kernel_rfl) (by kernel_rfl) (fun _ _ _ h => h) (Or.inl ⟨by rfl, ?_⟩) hS ?_
          rotate_left
          · (intro wq hSw; go_simp; try with_reducible rfl)
          refine wpAnyH_take (i := 1) (v := ?_) rfl (by kernel_rfl) (by kernel_rfl) (by kernel_rfl) (fun _ _ _ h => h) (Or.inl ⟨by rfl, ?_⟩) hS ?_
          rotate_left
          · (intro wq hSw; go_simp; try with_reducible rfl)
          simp only [List.getElem_toArray, List.getElem_cons_succ, List.getElem_cons_zero, Act.put, List.setIfInBounds_toArray, List.set_cons_succ, List.set_cons_zero]
          refine wpAnyH_take (i := 2) (v := ?_) rfl (by kernel_rfl) (by kernel_rfl) (by kernel_rfl) (fun _ _ _ h => h) (Or.inl ⟨by rfl, ?_⟩) hS ?_
          rotate_left
          · (intro wq hSw; go_simp; try with_reducible rfl)
          simp only [List.getElem_toArray, List.getElem_cons_succ, List.getElem_cons_zero, Act.put, List.setIfInBounds_toArray, List.set_cons_succ, List.set_cons_zero]
          refine wpAnyH_take (i := 3) (v := ?_) rfl (by kernel_rfl) (by kernel_rfl) (by kernel_rfl) (fun _ _ _ h => h) (Or.inl ⟨by rfl, ?_⟩) hS ?_
          rotate_left
          · (intro wq hSw; have hc := ((HQB.out.keep hSw fun h => h).cell 1); rw [hg] at hc; simp only [List.getElem?_toArray, List.getElem?_cons_zero, List.getElem?_cons_succ, Bool.not_true] at hc; go_simp; try with_reducible rfl)
          simp only [List.getElem_toArray, List.getElem_cons_succ, List.getElem_cons_zero, Act.put, List.setIfInBounds_toArray, List.set_cons_succ, List.set_cons_zero]
          refine wpAnyH_take (i := 4) (v := ?_) rfl (by kernel_rfl) (by kernel_rfl) (by kernel_rfl) (fun _ _ _ h => h) (Or.inl ⟨by rfl, ?_⟩) hS ?_
          rotate_left
          · (intro wq hSw; go_simp; try with_reducible rfl)
          simp only [List.getElem_toArray, List.getElem_cons_succ, List.getElem_cons_zero, Act.put, List.setIfInBounds_toArray, List.set_cons_succ, List.set_cons_zero]
          refine wpAnyH_take (i := 5) (v := ?_) rfl (by kernel_rfl) (by kernel_rfl) (by kernel_rfl) (fun _ _ _ h => h) (Or.inl ⟨by rfl, ?_⟩) hS ?_
          rotate_left
          · (intro wq hSw; obtain ⟨h0, h1, h2, h3⟩ := pbk_cells (HC.out.b.keep hSw fun h => h); go_simp; try with_reducible rfl)
          simp only [List.getElem_toArray, List.getElem_cons_succ, List.getElem_cons_zero, Act.put, List.setIfInBounds_toArray, List.set_cons_succ, List.set_cons_zero]
          refine wpAnyH_take (i := 8) (v := ?_) rfl (by kernel_rfl) (by kernel_rfl) (by kernel_rfl) (fun _ _ _ h => h) (Or.inl ⟨by rfl, ?_⟩) hS ?_
          rotate_left
          · (intro wq hSw; go_simp; try with_reducible rfl)
          simp only [List.getElem_toArray, List.getElem_cons_succ, List.getElem_cons_zero, Act.put, List.setIfInBounds_toArray, List.set_cons_succ, List.set_cons_zero]
          refine wpAnyH_take (i := 9) (v := ?_) rfl (by kernel_rfl) (by kernel_rfl) (by kernel_rfl) (fun _ _ _ h => h) (Or.inl ⟨by rfl, ?_⟩) hS ?_
          rotate_left
          · (intro wq hSw; have hcv := run_conv (fun b => b < w.heap.size) (some ad) n c l wq ((HRW.out.keep HC.out.f fun b hb h => by have := (HSR.out b h).1; have := HSZ.out; omega).keep hSw fun _ _ hn => hn); go_simp; try with_reducible rfl)
          simp only [List.getElem_toArray, List.getElem_cons_succ, List.getElem_cons_zero, Act.put, List.setIfInBounds_toArray, List.set_cons_succ, List.set_cons_zero]
          refine wpAnyH_ready (rs := [6]) (by kernel_rfl) (by simp) ?_
          refine AllReadyH.cons rfl (fun K hK => ?_) AllReadyH.nil
          go_simp
          refine HEN.out.mono ?_
          rintro e x9 ⟨rfl, hb9⟩
          refine hK.out _ _ ?_ (fun hS => ?_)
          · exact hS.trans (Fr.of_below hb9 No) fun _ hn => hn.elim
          clear hK K
          have HB9 := Lib.hid (show Fr wr x9 No from hS)
          have hcv := run_conv All none 0 0 [] x9 RB.nil_
          clear hb9
          refine wpAnyH_ready (rs := [7]) (by kernel_rfl) (by simp) ?_
          refine AllReadyH.cons rfl (fun K hK => ?_) AllReadyH.nil
          go_simp
          refine hK.out _ _ hS (fun hS => ?_)
          clear hK K hcv
          refine wpAnyH_take (i := 10) (v := ?_) rfl (by kernel_rfl) (by kernel_rfl) (by kernel_rfl) (fun _ _ _ h => h) (Or.inl ⟨by rfl, ?_⟩) hS ?_
          rotate_left
          · (intro wq hSw; go_simp; try with_reducible rfl)
          simp only [List.getElem_toArray, List.getElem_cons_succ, List.getElem_cons_zero, Act.put, List.setIfInBounds_toArray, List.set_cons_succ, List.set_cons_zero]
          refine wpAnyH_take (i := 11) (v := ?_) rfl (by kernel_rfl) (by kernel_rfl) (by kernel_rfl) (fun _ _ _ h => h) (Or.inl ⟨by rfl, ?_⟩) hS ?_
          rotate_left
          · (intro wq hSw; go_simp; try with_reducible rfl)
          simp only [List.getElem_toArray, List.getElem_cons_succ, List.getElem_cons_zero, Act.put, List.setIfInBounds_toArray, List.set_cons_succ, List.set_cons_zero]
          refine wpAnyH_done (by kernel_rfl) ?_ _
          clear hS y0 y1 y2 y3 b1
          have HDF := Lib.hid (show decOK l = false by
            rw [dec_enc l HLT.out (by have := HLL.out; have := HNC.out; omega), HU.out]
            simp only
            rw [← HQE.out, ← HMB.out]
            simp)
          have hbrz := HC.out.r.keep HB9.out (fun h => h)
          have r0 := hbrz.cell 0
          have r1 := hbrz.cell 1
          have r2 := hbrz.cell 2
          have r3 := hbrz.cell 3
          have q0 := hbrz.frozen 0
          have q1 := hbrz.frozen 1
          have q2 := hbrz.frozen 2
          have q3 := hbrz.frozen 3
          simp only [List.getElem?_toArray, List.getElem?_cons_zero, List.getElem?_cons_succ] at r0 r1 r2 r3
          obtain ⟨G, hG⟩ : ∃ G, (((x9.setCell ⟨w.heap.size, 0, none⟩ (.int .i64 0)).setCell ⟨w.heap.size, 1, none⟩ (.int .u64 0)).setCell ⟨w.heap.size, 2, none⟩ (.int .u32 0)).setCell ⟨w.heap.size, 3, none⟩ (.slice none 0 0) = G := ⟨_, rfl⟩
          have hbg : Blk G w.heap.size 26 #[.int .i64 0, .int .u64 0, .int .u32 0, (.slice none 0 0)] := by rw [← hG]; exact (((hbrz.set_ 0 _).set_ 1 _).set_ 2 _).set_ 3 _
          have hfG : Fr x9 G (fun b => b = w.heap.size) := by
            rw [← hG]
            exact fr_set (fr_set (fr_set (fr_set (Fr.refl _ _) _ _) _ _) _ _) _ _
          have g0 := hbg.cell 0
          have g1 := hbg.cell 1
          have g2 := hbg.cell 2
          have g3 := hbg.cell 3
          simp only [List.getElem?_toArray, List.getElem?_cons_zero, List.getElem?_cons_succ] at g0 g1 g2 g3
          have HFG := Lib.hid hfG
          clear hbg hfG
          clear hbrz
          go_wp2_with fail
          refine bodyPost_ret (v := .tuple #[PV.zero.agg, .bool false]) (by simp [results, Try.results27, go_sem, g0, g1, g2, g3, PV.agg, PV.zero]) rfl ?_
          refine ⟨PV.zero, ?_, DecB.no HDF.out ?_⟩
          · rw [HDF.out]
          · exact endBelow HBW.out (HC.out.f.trans HB9.out fun _ hb => hb.elim) (fun b hb => (HSR.out b hb).1) HFG.out
        | true =>
          have hen := rencode_yes ⟨(k : Int), s, x, vA, j, vc, lk⟩ wr.drew hqd hfew hmb.symm
          simp only [PV.agg, Int.toNat_natCast] at hen
          have hes : ∀ cc ∈ (⟨(k : Int), s, x, vA, j, vc, lk⟩ : PV).es, ∀ y ∈ cc.d, y < 256 := fun cc hcc => by
            obtain ⟨xx, hxx, rfl⟩ := List.mem_map.1 hcc
            exact (hqo.In.r.2.1 xx hxx).b.lt
          obtain ⟨EB, hEB⟩ : ∃ EB, EB = encB k s x (⟨(k : Int), s, x, vA, j, vc, lk⟩ : PV).es := ⟨_, rfl⟩
          have hseq := seq_iff (a := EB) (b := l) (by rw [hEB]; exact encB_lt k s x _ hes) HLT.out
          rw [← hEB] at hen
          have HEN := Lib.hid hen
          obtain ⟨sb, hsb⟩ : ∃ sb, sb = decide (EB = l) := ⟨_, rfl⟩
          rw [← hsb] at hseq
          have HEB := Lib.hid hEB
          have HSB := Lib.hid hsb
          clear hen hes hEB hsb
          have HQO := Lib.hid hqo
          have HQE := Lib.hid hqe
          have HMB := Lib.hid hmb
          clear hqo hqe hqd hfew hmb
          go_wp2_with fail
          refine wp_region_held_drew (S := fun wx => Fr wr wx No) (by kernel_rfl) ((Fr.refl wr _).drew) (fun hS => ?_)
          refine wpAnyH_take (i := 0) (v := ?_) rfl (by kernel_rfl) (by kernel_rfl) (by kernel_rfl) (fun _ _ _ h => h) (Or.inl ⟨by rfl, ?_⟩) hS ?_
          rotate_left
          · (intro wq hSw; go_simp; try with_reducible rfl)
          refine wpAnyH_take (i := 1) (v := ?_) rfl (by kernel_rfl) (by kernel_rfl) (by kernel_rfl) (fun _ _ _ h => h) (Or.inl ⟨by rfl, ?_⟩) hS ?_
          rotate_left
          · (intro wq hSw; go_simp; try with_reducible rfl)
          simp only [List.getElem_toArray, List.getElem_cons_succ, List.getElem_cons_zero, Act.put, List.setIfInBounds_toArray, List.set_cons_succ, List.set_cons_zero]
          refine wpAnyH_take (i := 2) (v := ?_) rfl (by kernel_rfl) (by kernel_rfl) (by kernel_rfl) (fun _ _ _ h => h) (Or.inl ⟨by rfl, ?_⟩) hS ?_
          rotate_left
          · (intro wq hSw; go_simp; try with_reducible rfl)
          simp only [List.getElem_toArray, List.getElem_cons_succ, List.getElem_cons_zero, Act.put, List.setIfInBounds_toArray, List.set_cons_succ, List.set_cons_zero]
          refine wpAnyH_take (i := 3) (v := ?_) rfl (by kernel_rfl) (by kernel_rfl) (by kernel_rfl) (fun _ _ _ h => h) (Or.inl ⟨by rfl, ?_⟩) hS ?_
          rotate_left
          · (intro wq hSw; have hc := ((HQB.out.keep hSw fun h => h).cell 1); rw [hg] at hc; simp only [List.getElem?_toArray, List.getElem?_cons_zero, List.getElem?_cons_succ, Bool.not_true] at hc; go_simp; try with_reducible rfl)
          simp only [List.getElem_toArray, List.getElem_cons_succ, List.getElem_cons_zero, Act.put, List.setIfInBounds_toArray, List.set_cons_succ, List.set_cons_zero]
          refine wpAnyH_take (i := 4) (v := ?_) rfl (by kernel_rfl) (by kernel_rfl) (by kernel_rfl) (fun _ _ _ h => h) (Or.inl ⟨by rfl, ?_⟩) hS ?_
          rotate_left
          · (intro wq hSw; go_simp; try with_reducible rfl)
          simp only [List.getElem_toArray, List.getElem_cons_succ, List.getElem_cons_zero, Act.put, List.setIfInBounds_toArray, List.set_cons_succ, List.set_cons_zero]
          refine wpAnyH_take (i := 5) (v := ?_) rfl (by kernel_rfl) (by kernel_rfl) (by kernel_rfl) (fun _ _ _ h => h) (Or.inl ⟨by rfl, ?_⟩) hS ?_
          rotate_left
          · (intro wq hSw; obtain ⟨h0, h1, h2, h3⟩ := pbk_cells (HC.out.b.keep hSw fun h => h); go_simp; try with_reducible rfl)
          simp only [List.getElem_toArray, List.getElem_cons_succ, List.getElem_cons_zero, Act.put, List.setIfInBounds_toArray, List.set_cons_succ, List.set_cons_zero]
          refine wpAnyH_take (i := 8) (v := ?_) rfl (by kernel_rfl) (by kernel_rfl) (by kernel_rfl) (fun _ _ _ h => h) (Or.inl ⟨by rfl, ?_⟩) hS ?_
          rotate_left
          · (intro wq hSw; go_simp; try with_reducible rfl)
          simp only [List.getElem_toArray, List.getElem_cons_succ, List.getElem_cons_zero, Act.put, List.setIfInBounds_toArray, List.set_cons_succ, List.set_cons_zero]
          refine wpAnyH_take (i := 9) (v := ?_) rfl (by kernel_rfl) (by kernel_rfl) (by kernel_rfl) (fun _ _ _ h => h) (Or.inl ⟨by rfl, ?_⟩) hS ?_
          rotate_left
          · (intro wq hSw; have hcv := run_conv (fun b => b < w.heap.size) (some ad) n c l wq ((HRW.out.keep HC.out.f fun b hb h => by have := (HSR.out b h).1; have := HSZ.out; omega).keep hSw fun _ _ hn => hn); go_simp; try with_reducible rfl)
          simp only [List.getElem_toArray, List.getElem_cons_succ, List.getElem_cons_zero, Act.put, List.setIfInBounds_toArray, List.set_cons_succ, List.set_cons_zero]
          refine wpAnyH_ready (rs := [6]) (by kernel_rfl) (by simp) ?_
          refine AllReadyH.cons rfl (fun K hK => ?_) AllReadyH.nil
          go_simp
          refine HEN.out.mono ?_
          rintro e x9 ⟨v9, rfl, ho9, hb9⟩
          refine hK.out _ _ ?_ (fun hS => ?_)
          · exact hS.trans (Fr.of_below hb9 No) fun _ hn => hn.elim
          clear hK K
          have HB9 := Lib.hid (show Fr wr x9 No from hS)
          obtain ⟨A9, c9, rfl, _, _, hr9⟩ := ho9.reads
          have hcv := run_conv _ A9 512 c9 EB x9 hr9
          clear hb9 ho9 hr9
          refine wpAnyH_ready (rs := [7]) (by kernel_rfl) (by simp) ?_
          refine AllReadyH.cons rfl (fun K hK => ?_) AllReadyH.nil
          go_simp
          refine hK.out _ _ hS (fun hS => ?_)
          clear hK K hcv
          refine wpAnyH_take (i := 10) (v := ?_) rfl (by kernel_rfl) (by kernel_rfl) (by kernel_rfl) (fun _ _ _ h => h) (Or.inl ⟨by rfl, ?_⟩) hS ?_
          rotate_left
          · (intro wq hSw; go_simp; try with_reducible rfl)
          simp only [List.getElem_toArray, List.getElem_cons_succ, List.getElem_cons_zero, Act.put, List.setIfInBounds_toArray, List.set_cons_succ, List.set_cons_zero]
          refine wpAnyH_take (i := 11) (v := ?_) rfl (by kernel_rfl) (by kernel_rfl) (by kernel_rfl) (fun _ _ _ h => h) (Or.inl ⟨by rfl, ?_⟩) hS ?_
          rotate_left
          · (intro wq hSw; go_simp; try with_reducible rfl)
          simp only [List.getElem_toArray, List.getElem_cons_succ, List.getElem_cons_zero, Act.put, List.setIfInBounds_toArray, List.set_cons_succ, List.set_cons_zero]
          refine wpAnyH_done (by kernel_rfl) ?_ _
          clear hS y0 y1 y2 y3 b1
          cases sb with
          | false =>
            have HDF := Lib.hid (show decOK l = false by
              have h2 := HSB.out
              rw [HEB.out] at h2
              rw [dec_enc l HLT.out (by have := HLL.out; have := HNC.out; omega), HU.out]
              simp only
              rw [← HQE.out, ← HMB.out, ← h2, ← HJM.out, ← HOK.out]
              simp)
            have hbrz := HC.out.r.keep HB9.out (fun h => h)
            have r0 := hbrz.cell 0
            have r1 := hbrz.cell 1
            have r2 := hbrz.cell 2
            have r3 := hbrz.cell 3
            have q0 := hbrz.frozen 0
            have q1 := hbrz.frozen 1
            have q2 := hbrz.frozen 2
            have q3 := hbrz.frozen 3
            simp only [List.getElem?_toArray, List.getElem?_cons_zero, List.getElem?_cons_succ] at r0 r1 r2 r3
            obtain ⟨G, hG⟩ : ∃ G, (((x9.setCell ⟨w.heap.size, 0, none⟩ (.int .i64 0)).setCell ⟨w.heap.size, 1, none⟩ (.int .u64 0)).setCell ⟨w.heap.size, 2, none⟩ (.int .u32 0)).setCell ⟨w.heap.size, 3, none⟩ (.slice none 0 0) = G := ⟨_, rfl⟩
            have hbg : Blk G w.heap.size 26 #[.int .i64 0, .int .u64 0, .int .u32 0, (.slice none 0 0)] := by rw [← hG]; exact (((hbrz.set_ 0 _).set_ 1 _).set_ 2 _).set_ 3 _
            have hfG : Fr x9 G (fun b => b = w.heap.size) := by
              rw [← hG]
              exact fr_set (fr_set (fr_set (fr_set (Fr.refl _ _) _ _) _ _) _ _) _ _
            have g0 := hbg.cell 0
            have g1 := hbg.cell 1
            have g2 := hbg.cell 2
            have g3 := hbg.cell 3
            simp only [List.getElem?_toArray, List.getElem?_cons_zero, List.getElem?_cons_succ] at g0 g1 g2 g3
            have HFG := Lib.hid hfG
            clear hbg hfG
            clear hbrz
            go_wp2_with fail
            refine bodyPost_ret (v := .tuple #[PV.zero.agg, .bool false]) (by simp [results, Try.results27, go_sem, g0, g1, g2, g3, PV.agg, PV.zero]) rfl ?_
            refine ⟨PV.zero, ?_, DecB.no HDF.out ?_⟩
            · rw [HDF.out]
            · exact endBelow HBW.out (HC.out.f.trans HB9.out fun _ hb => hb.elim) (fun b hb => (HSR.out b hb).1) HFG.out
          | true =>
            have HDT := Lib.hid (show decOK l = true by
              have h2 := HSB.out
              rw [HEB.out] at h2
              rw [dec_enc l HLT.out (by have := HLL.out; have := HNC.out; omega), HU.out]
              simp only
              rw [← HQE.out, ← HMB.out, ← h2, ← HJM.out, ← HOK.out]
              simp)
            obtain ⟨y0, y1, y2, y3⟩ := pbk_cells (HC.out.b.keep HB9.out fun h => h)
            have hbrz := HC.out.r.keep HB9.out (fun h => h)
            have r0 := hbrz.cell 0
            have r1 := hbrz.cell 1
            have r2 := hbrz.cell 2
            have r3 := hbrz.cell 3
            have q0 := hbrz.frozen 0
            have q1 := hbrz.frozen 1
            have q2 := hbrz.frozen 2
            have q3 := hbrz.frozen 3
            simp only [List.getElem?_toArray, List.getElem?_cons_zero, List.getElem?_cons_succ] at r0 r1 r2 r3
            obtain ⟨G, hG⟩ : ∃ G, (((x9.setCell ⟨w.heap.size, 0, none⟩ (.int .i64 (k : Int))).setCell ⟨w.heap.size, 1, none⟩ (.int .u64 (s : Int))).setCell ⟨w.heap.size, 2, none⟩ (.int .u32 (x : Int))).setCell ⟨w.heap.size, 3, none⟩ (.slice vA j vc) = G := ⟨_, rfl⟩
            have hbg : Blk G w.heap.size 26 #[.int .i64 (k : Int), .int .u64 (s : Int), .int .u32 (x : Int), (.slice vA j vc)] := by rw [← hG]; exact (((hbrz.set_ 0 _).set_ 1 _).set_ 2 _).set_ 3 _
            have hfG : Fr x9 G (fun b => b = w.heap.size) := by
              rw [← hG]
              exact fr_set (fr_set (fr_set (fr_set (Fr.refl _ _) _ _) _ _) _ _) _ _
            have g0 := hbg.cell 0
            have g1 := hbg.cell 1
            have g2 := hbg.cell 2
            have g3 := hbg.cell 3
            simp only [List.getElem?_toArray, List.getElem?_cons_zero, List.getElem?_cons_succ] at g0 g1 g2 g3
            have HFG := Lib.hid hfG
            clear hbg hfG
            clear hbrz
            go_wp2_with fail
            refine bodyPost_ret (v := .tuple #[.agg #[.int .i64 (k : Int), .int .u64 (s : Int), .int .u32 (x : Int), .slice vA j vc], .bool true]) (by simp [results, Try.results27, go_sem, g0, g1, g2, g3]) rfl ?_
            refine ⟨⟨(k : Int), s, x, vA, j, vc, lk⟩, ?_, SO, T, ?_, ?_, ?_, ?_, ?_⟩
            · rw [HDT.out]; rfl
            · refine (HQO.out.keep HB9.out (fun _ _ hn => hn) fun _ _ hn => hn).keep HFG.out (fun b hb e => ?_) fun b hb e => ?_
              · have := (HC.out.so b hb).1; have := HSZ.out; omega
              · have := (HC.out.t b hb).1; have := HSZ.out; omega
            · intro b hb; have := (HC.out.so b hb).1; have := HSZ.out; omega
            · intro b hb; have := (HC.out.t b hb).1; have := HSZ.out; omega
            · exact endBelow HBW.out (HC.out.f.trans HB9.out fun _ hb => hb.elim) (fun b hb => (HSR.out b hb).1) HFG.out
            · unfold decP
              rw [HDT.out, if_pos rfl, HU.out]
              exact ⟨rfl, rfl, rfl, HQE.out⟩
theorem rdecode_any (w : World) (A : Option Addr) (n c : Nat) (l : List Nat) (hr : RB w All A n l) (hnc : n ≤ c) : Calls Try.prog 27 #[.slice A n c] w (DecR w l) := by
  by_cases h : n = 512
  · exact rdecode_full w A n c l hr h hnc
  · exact rdecode_short w A n c l hr.len h
end Go.Proofs.Ytajmpoanmdgmpaa
