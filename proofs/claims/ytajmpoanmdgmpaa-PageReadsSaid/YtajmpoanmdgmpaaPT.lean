/-
  THE WALKS OF areNoughts, readCell.
-/
import Derived.Test.YtajmpoanmdgmpaaPJ
import Derived.Test.YtajmpoanmdgmpaaPL
import Derived.Test.YtajmpoanmdgmpaaPR
namespace Go.Proofs.Ytajmpoanmdgmpaa
open Go.RowKit

set_option maxRecDepth 100000 in
theorem areNoughts_any (T : Nat → Prop) (A : Option Addr) (n c : Nat) (l : List Nat) (w : World) (h : RB w T A n l) (hn : n ≤ 140737488351232) :
    Calls Try.prog 54 #[.slice A n c] w fun e w' => e = .returned (.bool (decide (∀ j, j < n → l.getD j 0 = 0))) ∧ w = w' := by
  have HR := Lib.hid h
  clear h
  go_enter Try.func54, Try.ntmps54
  go_wp2
  go_loopw [4, 7] (fun _ i wr => ∃ q : Nat, q ≤ n ∧ i = .int .i64 (q : Int) ∧ (∀ j, j < q → l.getD j 0 = 0) ∧ w = wr) (fun _ i _ => n - (intOf i).toNat)
  case atStart => exact ⟨0, by omega, rfl, fun j hj => by omega, rfl⟩
  case round =>
    obtain ⟨q, hq, rfl, hall, rfl⟩ := hrel
    have HA := Lib.hid hall
    clear hall
    by_cases hlt : q < n
    · obtain ⟨ad, rfl, hx, hc⟩ := HR.out.at_ hlt
      have HX : Hid (∃ x, x = l.getD q 0) := ⟨_, rfl⟩
      obtain ⟨x, hxe⟩ := HX.out
      rw [← hxe] at hx hc
      have HXE := Lib.hid hxe
      have hin : ((q : Int) < (n : Int)) := by omega
      have hWi : IntKind.i64.wrap ((q : Int) + 1) = ((q + 1 : Nat) : Int) := by rw [IntWalk.i64_in _ (by omega)]; omega
      by_cases h0 : x = 0
      · have z0 : ((x : Int) == 0) = true := by rw [beq_iff_eq]; omega
        have z1 : ((x : Int) != 0) = false := by rw [bne_eq_false_iff_eq]; omega
        have HN : Hid (∀ j, j < q + 1 → l.getD j 0 = 0) := fun j hj => by
          rcases Nat.lt_or_ge j q with h' | h'
          · exact HA.out j h'
          · obtain rfl : j = q := by omega
            rw [← HXE.out]; exact h0
        clear h0 hxe hx
        go_wp2_with fail
        go_roundw
        case rel => exact ⟨q + 1, by omega, by go_num, HN.out, by first | rfl | trivial⟩
        case measure => simp [intOf]; omega
      · have z0 : ((x : Int) == 0) = false := beq_false_of_ne (by omega)
        have z1 : ((x : Int) != 0) = true := bne_iff_ne.2 (by omega)
        have HN : Hid (¬ ∀ j, j < n → l.getD j 0 = 0) := fun hh => h0 (by rw [HXE.out]; exact hh q hlt)
        clear h0 hxe hx
        go_wp2_with fail
        go_ret
        exact ⟨by rw [decide_eq_false HN.out]; rfl, rfl⟩
    · have d1 : decide ((q : Int) < (n : Int)) = false := decide_eq_false (by omega)
      have d2 : decide (q < n) = false := decide_eq_false hlt
      have HN : Hid (∀ j, j < n → l.getD j 0 = 0) := fun j hj => HA.out j (by omega)
      go_wp2_with fail
      go_ret
      exact ⟨by rw [decide_eq_true HN.out]; rfl, rfl⟩
/-- what readCell reads: the cell, whether the reader is sound behind it, what is left -/
structure RC where
  c : CE
  ok : Bool
  l : List Nat
def rcell (ok : Bool) (l : List Nat) : RC :=
  let o1 := fixO l 2
  let ok1 := okO ok o1
  let l1 := leftO ok l o1
  let n := valO ok o1 0
  if n = 0 then ⟨⟨false, 0, []⟩, ok1, l1⟩ else
  let o2 := fixO l1 4
  let ok2 := okO ok1 o2
  let l2 := leftO ok1 l1 o2
  let o3 := takeO l2 n
  ⟨⟨true, valO ok1 o2 0, valO ok2 o3 []⟩, okO ok2 o3, leftO ok2 l2 o3⟩
def RCell (w : World) (S : Nat → Prop) (p : Option Nat) (r : RC) (e : Ending) (w' : World) : Prop :=
  ∃ A m c, e = .returned (.agg #[.bool r.c.u, .int .u32 (r.c.k : Int), .slice A m c]) ∧ Ow w' (fun b => w.heap.size ≤ b) (.slice A m c) m r.c.d ∧ Rd w' S p r.ok r.l ∧ Fr w w' S
theorem fix2_lt (ok : Bool) (l : List Nat) (h : ∀ x ∈ l, x < 256) : valO ok (fixO l 2) 0 < 65536 := by
  rw [fixO_val]
  have h1 := takeO_len ok l 2
  have h6 : valO ok (takeO l ((2 : Nat) : Int)) [] = valO ok (takeO l 2) [] := rfl
  rw [h6] at h1 ⊢
  have h2 : ∀ x ∈ valO ok (takeO l 2) [], x < 256 := by
    cases ok with
    | false => simp [valO]
    | true =>
      intro x hx
      by_cases h3 : (0 : Int) ≤ ((2 : Nat) : Int) ∧ ((2 : Nat) : Int) ≤ l.length
      · have h4 : takeO l ((2 : Nat) : Int) = some (l.take 2, 2) := takeO_yes (by omega)
        have h5 : x ∈ valO true (takeO l ((2 : Nat) : Int)) [] := hx
        rw [h4] at h5
        exact h x (List.mem_of_mem_take h5)
      · have h4 : takeO l ((2 : Nat) : Int) = none := takeO_no h3
        have h5 : x ∈ valO true (takeO l ((2 : Nat) : Int)) [] := hx
        rw [h4] at h5
        simp [valO] at h5
  have h3 := unfix_take_lt (valO ok (takeO l 2) []) (valO ok (takeO l 2) []).length h2
  rw [List.take_length] at h3
  have h4 : 256 ^ (valO ok (takeO l 2) []).length ≤ 256 ^ 2 := Nat.pow_le_pow_right (by omega) h1
  omega
set_option maxHeartbeats 2000000 in
set_option maxRecDepth 100000 in
theorem readCell_any (w : World) (S : Nat → Prop) (p : Option Nat) (ok : Bool) (l : List Nat) (h : Rd w S p ok l) (hS : ∀ b, S b → b < w.heap.size) : Calls Try.prog 78 #[ptr p] w (RCell w S p (rcell ok l)) := by
  obtain ⟨W, hW⟩ : ∃ W, w.alloc (.cells #[.bool false, .int .u32 0, .slice none 0 0] 58) = W := ⟨_, rfl⟩
  have hfW : Fr w W No := by rw [← hW]; exact (Fr.refl w No).alloc _
  have hbr : Blk W w.heap.size 58 #[.bool false, .int .u32 0, .slice none 0 0] := by rw [← hW]; exact Blk.new w 58 _
  have hsz : W.heap.size = w.heap.size + 1 := by rw [← hW]; simp
  have HC1 := Lib.hid (ru16_any W S p ok l (Rd.keep h hfW fun _ _ hn => hn))
  have hn := fix2_lt ok l (Rd.lt h)
  have HFW := Lib.hid hfW
  have HBR := Lib.hid hbr
  have HSZ := Lib.hid hsz
  have HS := Lib.hid hS
  have HU : Hid (rcell ok l = rcell ok l) := rfl
  conv at HU => rhs; unfold rcell
  obtain ⟨n, hne⟩ : ∃ n, n = valO ok (fixO l 2) 0 := ⟨_, rfl⟩
  obtain ⟨l1, hl1⟩ : ∃ l1, l1 = leftO ok l (fixO l 2) := ⟨_, rfl⟩
  obtain ⟨ok1, hok1⟩ : ∃ ok1, ok1 = okO ok (fixO l 2) := ⟨_, rfl⟩
  have HC1 : Hid (Calls Try.prog 96 #[ptr p] W fun e w' => e = .returned (.int .u16 (n : Int)) ∧ Rd w' S p ok1 l1 ∧ Fr W w' S) := by rw [hne, hl1, hok1]; exact HC1
  obtain ⟨u, hu⟩ : ∃ u, u = rcell ok l := ⟨_, rfl⟩
  have HUV : Hid (u = if n = 0 then ⟨⟨false, 0, []⟩, ok1, l1⟩ else ⟨⟨true, valO ok1 (fixO l1 4) 0, valO (okO ok1 (fixO l1 4)) (takeO (leftO ok1 l1 (fixO l1 4)) n) []⟩, okO (okO ok1 (fixO l1 4)) (takeO (leftO ok1 l1 (fixO l1 4)) n), leftO (okO ok1 (fixO l1 4)) (leftO ok1 l1 (fixO l1 4)) (takeO (leftO ok1 l1 (fixO l1 4)) n)⟩) := by rw [hu, hne, hl1, hok1]; exact Lib.hid rfl
  rw [← hu]
  rw [← hne] at hn
  have hwn : IntKind.i64.wrap (n : Int) = (n : Int) := IntWalk.i64_in _ (by omega)
  clear h hfW hbr hsz hS HU hne hl1 hok1 hu
  go_enter Try.func78, Try.ntmps78
  go_wp2_with fail
  refine HC1.out.mono ?_
  rintro e w1 ⟨rfl, hd1, hf1⟩
  have HD1 := Lib.hid hd1
  have HF1 := Lib.hid hf1
  have hbrw1 := HBR.out.keep hf1 (fun hs => Nat.lt_irrefl _ (HS.out _ hs))
  clear hd1 hf1
  by_cases h0 : n = 0
  · have z0 : ((n : Int) == 0) = true := by rw [beq_iff_eq]; omega
    have HV : Hid (u = ⟨⟨false, 0, []⟩, ok1, l1⟩) := by rw [HUV.out, if_pos h0]; exact Lib.hid rfl
    clear h0
    have r0 := hbrw1.cell 0
    have r1 := hbrw1.cell 1
    have r2 := hbrw1.cell 2
    have q0 := hbrw1.frozen 0
    have q1 := hbrw1.frozen 1
    have q2 := hbrw1.frozen 2
    simp only [List.getElem?_toArray, List.getElem?_cons_zero, List.getElem?_cons_succ] at r0 r1 r2
    obtain ⟨G, hG⟩ : ∃ G, ((w1.setCell ⟨w.heap.size, 0, none⟩ (.bool false)).setCell ⟨w.heap.size, 1, none⟩ (.int .u32 0)).setCell ⟨w.heap.size, 2, none⟩ (.slice none 0 0) = G := ⟨_, rfl⟩
    have hbg : Blk G w.heap.size 58 #[.bool false, .int .u32 0, .slice none 0 0] := by rw [← hG]; exact ((hbrw1.set_ 0 _).set_ 1 _).set_ 2 _
    have HFG : Hid (Fr w1 G (fun b => b = w.heap.size)) := by
      rw [← hG]
      exact fr_set (fr_set (fr_set (Fr.refl _ _) _ _) _ _) _ _
    have g0 := hbg.cell 0
    have g1 := hbg.cell 1
    have g2 := hbg.cell 2
    simp only [List.getElem?_toArray, List.getElem?_cons_zero, List.getElem?_cons_succ] at g0 g1 g2
    clear hbg hbrw1
    go_wp2_with fail
    refine bodyPost_ret (v := .agg #[.bool false, .int .u32 0, .slice none 0 0]) (by simp [results, Try.results78, go_sem, g0, g1, g2]) rfl ?_
    refine ⟨none, 0, 0, by rw [HV.out]; rfl, by rw [HV.out]; exact Ow.nil_ _ _, ?_, ?_⟩
    · rw [HV.out]; exact Rd.keep HD1.out HFG.out fun b hb e => Nat.lt_irrefl _ (e ▸ HS.out b hb)
    · exact ((HFW.out.mono fun _ _ hn => hn.elim).trans HF1.out fun _ hb => Or.inl hb).trans HFG.out fun b hb => Or.inr (by omega)
  · have z0 : ((n : Int) == 0) = false := beq_false_of_ne (by omega)
    have HV := Lib.hid (HUV.out.trans (if_neg h0))
    have HC2 := Lib.hid (ru32_any w1 S p ok1 l1 HD1.out)
    have HBRW := Lib.hid hbrw1
    have HNN := Lib.hid hn
    clear h0 hbrw1
    obtain ⟨k, hk⟩ : ∃ k, k = valO ok1 (fixO l1 4) 0 := ⟨_, rfl⟩
    obtain ⟨ok2, hok2⟩ : ∃ ok2, ok2 = okO ok1 (fixO l1 4) := ⟨_, rfl⟩
    obtain ⟨l2, hl2⟩ : ∃ l2, l2 = leftO ok1 l1 (fixO l1 4) := ⟨_, rfl⟩
    rw [← hk, ← hok2, ← hl2] at HV
    have HC2 : Hid (Calls Try.prog 52 #[ptr p] w1 fun e w' => e = .returned (.int .u32 (k : Int)) ∧ Rd w' S p ok2 l2 ∧ Fr w1 w' S) := by rw [hk, hok2, hl2]; exact HC2
    clear hk hok2 hl2
    go_wp2_with fail
    refine HC2.out.mono ?_
    rintro e w2 ⟨rfl, hd2, hf2⟩
    obtain ⟨E, hE⟩ : ∃ E, w2.alloc (.cells #[.bool true, .int .u32 (k : Int), .slice none 0 0] 58) = E := ⟨_, rfl⟩
    have hfE : Fr w2 E No := by rw [← hE]; exact (Fr.refl w2 No).alloc _
    have hbE : Blk E w2.heap.size 58 #[.bool true, .int .u32 (k : Int), .slice none 0 0] := by rw [← hE]; exact Blk.new w2 58 _
    have hzE : E.heap.size = w2.heap.size + 1 := by rw [← hE]; simp
    have HC3 := Lib.hid (rraw_any E S p ok2 l2 (n : Int) (by omega) (by omega) (Rd.keep hd2 hfE fun _ _ hn => hn))
    have HBE := Lib.hid hbE
    have HZE := Lib.hid hzE
    have HBR2 := Lib.hid (HBRW.out.keep hf2 (fun hs => Nat.lt_irrefl _ (HS.out _ hs)))
    have HW2 := Lib.hid (show w.heap.size < w2.heap.size by have := HBR2.out.lt; omega)
    have HFW2 : Hid (Fr w w2 S) := ((HFW.out.mono fun _ _ hn => hn.elim).trans HF1.out fun _ hb => Or.inl hb).trans hf2 fun _ hb => Or.inl hb
    have HFE := Lib.hid hfE
    clear hd2 hf2 hfE hbE hzE
    subst hE
    go_wp2_with fail
    refine HC3.out.mono ?_
    rintro e w3 ⟨v, m, rfl, hmlen, ho, hg⟩
    clear hmlen
    obtain ⟨A, c, rfl, _, _, _⟩ := ho.reads
    have hbd3 := HBE.out.keep hg.2 (fun hs => by have := HS.out _ hs; have := HW2.out; omega)
    have hbr3 := (HBR2.out.keep (HFE.out) fun hn => hn).keep hg.2 (fun hs => Nat.lt_irrefl _ (HS.out _ hs))
    have d0 := hbd3.cell 0
    have d1 := hbd3.cell 1
    have d2 := hbd3.cell 2
    have f0 := hbd3.frozen 0
    have f1 := hbd3.frozen 1
    have f2 := hbd3.frozen 2
    simp only [List.getElem?_toArray, List.getElem?_cons_zero, List.getElem?_cons_succ] at d0 d1 d2
    obtain ⟨F, hF⟩ : ∃ F, w3.setCell ⟨w2.heap.size, 2, none⟩ (.slice A m c) = F := ⟨_, rfl⟩
    have hbdF : Blk F w2.heap.size 58 #[.bool true, .int .u32 (k : Int), .slice A m c] := by rw [← hF]; exact hbd3.set_ 2 _
    have hbrF : Blk F w.heap.size 58 #[.bool false, .int .u32 0, .slice none 0 0] := by rw [← hF]; exact hbr3.far (by have := HW2.out; simp only; omega) _
    have HFF : Hid (Fr w3 F (fun b => b = w2.heap.size)) := by rw [← hF]; exact fr_set (Fr.refl _ _) _ _
    have e0 := hbdF.cell 0
    have e1 := hbdF.cell 1
    have e2 := hbdF.cell 2
    simp only [List.getElem?_toArray, List.getElem?_cons_zero, List.getElem?_cons_succ] at e0 e1 e2
    have r0 := hbrF.cell 0
    have r1 := hbrF.cell 1
    have r2 := hbrF.cell 2
    have q0 := hbrF.frozen 0
    have q1 := hbrF.frozen 1
    have q2 := hbrF.frozen 2
    simp only [List.getElem?_toArray, List.getElem?_cons_zero, List.getElem?_cons_succ] at r0 r1 r2
    obtain ⟨G, hG⟩ : ∃ G, ((F.setCell ⟨w.heap.size, 0, none⟩ (.bool true)).setCell ⟨w.heap.size, 1, none⟩ (.int .u32 (k : Int))).setCell ⟨w.heap.size, 2, none⟩ (.slice A m c) = G := ⟨_, rfl⟩
    have hbg : Blk G w.heap.size 58 #[.bool true, .int .u32 (k : Int), .slice A m c] := by rw [← hG]; exact ((hbrF.set_ 0 _).set_ 1 _).set_ 2 _
    have HFG : Hid (Fr F G (fun b => b = w.heap.size)) := by
      rw [← hG]
      exact fr_set (fr_set (fr_set (Fr.refl _ _) _ _) _ _) _ _
    have g0 := hbg.cell 0
    have g1 := hbg.cell 1
    have g2 := hbg.cell 2
    simp only [List.getElem?_toArray, List.getElem?_cons_zero, List.getElem?_cons_succ] at g0 g1 g2
    have HO := Lib.hid ho
    have HG := Lib.hid hg
    clear ho hg hbd3 hbr3 hbdF hbrF hbg
    go_wp2_with fail
    refine bodyPost_ret (v := .agg #[.bool true, .int .u32 (k : Int), .slice A m c]) (by simp [results, Try.results78, go_sem, g0, g1, g2]) rfl ?_
    have hf : Fr w3 G (fun b => b = w2.heap.size ∨ b = w.heap.size) := (HFF.out.mono fun _ _ h => Or.inl h).trans HFG.out fun _ h => Or.inl (Or.inr h)
    refine ⟨A, m, c, by rw [HV.out], ?_, ?_, ?_⟩
    · rw [HV.out]
      refine (HO.out.keep hf fun b hb hn => ?_).mono fun b _ hb => ?_
      · have := HZE.out; have := HW2.out; omega
      · have := HZE.out; have := HW2.out; omega
    · rw [HV.out]
      exact Rd.keep HG.out.1 hf fun b hb hn => by have := HS.out b hb; have := HW2.out; omega
    · exact ((HFW2.out.trans HFE.out fun _ hb => hb.elim).trans HG.out.2 fun _ hb => Or.inl hb).trans hf fun b hb => Or.inr (by have := HW2.out; omega)
end Go.Proofs.Ytajmpoanmdgmpaa
