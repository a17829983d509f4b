/-
TA
-/
import Derived.Test.YtdhgbkibbileiaaGreatSA
set_option maxRecDepth 100000
namespace Go.Proofs.YtdhgbkibbileiaaGreat
open Go.RowKit
def u64s (xs : List Nat) : Array Value := (xs.map fun (x : Nat) => Value.int .u64 ((x : Nat) : Int)).toArray
theorem Blk.grown_ {w w' : World} {v : Value} {n : Nat} {l : List Value} {g : Nat} {t : TypeId} {cs : Array Value} (hb : Blk w g t cs) (ho : w.ownsRow 0 5 1 v n l) (ht : (5 : TypeId) ≠ t) (hg : w.grownBy w' v.ownBlock) : Blk w' g t cs :=
 hb.keep ((Fr.refl w (fun b => v.ownBlock = some b)).grown hg fun _ hk => Or.inl hk) (fun h => hb.own_ne ho ht h.symm)
set_option maxHeartbeats 4000000 in
theorem put_fr (W w : World) (v : Value) (bs : List Nat) (h : Own W w v bs) (g m c : Nat) (xs : List Nat) (hb : Blk w g 22 (u64s xs)) (hm : xs.length = m) (hx : ∀ x ∈ xs, x < 18446744073709551616) (hl : bs.length + 10 * m ≤ 1099511600000) :
  Calls Tryz.prog 46 #[v, .slice (some ⟨g, 0, none⟩) m c] w fun e w' => ∃ v', e = .returned v' ∧ Own W w' v' (bs ++ xs.flatMap Cd.vi) ∧ Fr w w' (fun b => v.ownBlock = some b) ∧ ∀ k, v'.ownBlock = some k → v.ownBlock = some k ∨ w.heap.size ≤ k := by
 obtain ⟨vA, vc, hv, _, _, _⟩ := h.1.reads
 obtain ⟨ob, hob⟩ : ∃ ob : Nat → Prop, ob = fun b => v.ownBlock = some b := ⟨_, rfl⟩
 have HOB : Hid (∀ k, v.ownBlock = some k ↔ ob k) := Lib.hid (fun k => by rw [hob])
 have HOV : Hid (∀ k, (Value.slice vA bs.length vc).ownBlock = some k → ob k) := Lib.hid (fun k hk => by rw [hob, hv]; exact hk)
 have hpost : (fun b => v.ownBlock = some b) = ob := hob.symm
 rw [hpost]
 simp only [HOB.out]
 subst hv
 have HO := Lib.hid h
 have HB := Lib.hid hb
 have HX := Lib.hid hx
 have HM := Lib.hid (And.intro hm hl)
 have hm9 : m ≤ 109951160000 := by omega
 clear h hb hx hm hl hob hpost
 go_enter Tryz.func46, Tryz.ntmps46
 go_wp2_with fail
 go_loopw [0, 5] (fun v i wr => ∃ q : Nat, q ≤ m ∧ i = .int .i64 (q : Int) ∧ Own W wr v (bs ++ (xs.take q).flatMap Cd.vi) ∧ Blk wr g 22 (u64s xs) ∧ Fr w wr ob ∧ ∀ k, v.ownBlock = some k → ob k ∨ w.heap.size ≤ k) (fun _ i _ => m - (intOf i).toNat)
 case atStart => exact ⟨0, by omega, rfl, by simpa using HO.out, HB.out, Fr.refl _ _, fun k hk => Or.inl (HOV.out k hk)⟩
 case round =>
  obtain ⟨q, hq, rfl, hown, hblk, hfr, hvo⟩ := hrel
  obtain ⟨bq, hbq⟩ : ∃ bq, bq = bs ++ (xs.take q).flatMap Cd.vi := ⟨_, rfl⟩
  rw [← hbq] at hown
  have HBQ := Lib.hid hbq
  clear hbq
  obtain ⟨vA, vc, hv, _, _, _⟩ := hown.1.reads
  subst hv
  have HO := Lib.hid hown
  have HB := Lib.hid hblk
  have HFR := Lib.hid hfr
  have HVO := Lib.hid hvo
  clear hfr hvo
  by_cases hlt : q < m
  ·have hin : ((q : Int) < (m : Int)) := by omega
   have d1 : decide ((q : Int) < (m : Int)) = true := decide_eq_true hin
   have hWi : IntKind.i64.wrap ((q : Int) + 1) = ((q + 1 : Nat) : Int) := by rw [IntWalk.i64_in _ (by omega)]; omega
   have hwq : IntKind.i64.wrap (q : Int) = (q : Int) := IntWalk.i64_in _ (by omega)
   obtain ⟨x, hx⟩ : ∃ x, xs[q]? = some x := ⟨xs[q]'(by have := HM.out.1; omega), List.getElem?_eq_getElem _⟩
   have y0 := hblk.cell q
   have hcq : (u64s xs)[q]? = some (.int .u64 (x : Int)) := by unfold u64s; simp [hx]
   rw [hcq] at y0
   have hxl := HX.out x (List.mem_of_getElem? hx)
   have HXX := Lib.hid (And.intro hx hxl)
   have HU := Lib.hid (ruint_any wr x hxl)
   clear hx hxl hcq hown hblk
   go_wp2_with fail
   with_reducible refine HU.out.mono ?_
   unfold New
   rintro e w2 ⟨v2, rfl, ho2, hb2⟩
   obtain ⟨A2, c2, rfl, _, _, hr2⟩ := ho2.reads
   have HR2 := Lib.hid hr2
   have HO2 := Lib.hid (show Own W w2 _ _ from ⟨HO.out.1.keep (Fr.of_below hb2 No) (fun _ _ hn => hn), HO.out.2.trans (hb2.mono HO.out.2.size)⟩)
   have HB2 := Lib.hid (HB.out.below hb2 HB.out.lt)
   have HS2 := Lib.hid hb2.size
   have HF2 := Lib.hid (HFR.out.trans (Fr.of_below hb2 ob) fun _ hb => Or.inl hb)
   clear ho2 hr2 hb2
   have HLB : Hid (bq.length + (Cd.vi x).length ≤ 140737488351232) := Lib.hid (by
    have h1 := flat_mem Cd.vi (l := xs) (i := q) (m := 10) (fun y hy => vi_len y (HX.out y hy)) (by have := HM.out.1; omega)
    have h2 := vi_len x HXX.out.2
    have h3 := HM.out.2
    have h4 := HM.out.1
    rw [HBQ.out, List.length_append]
    omega)
   go_wp2_with (at_builtin; go_must (refine wpList_app rfl (.tmp 12) (.tmp 17) rfl _ bq.length _ rfl (show Ow w2 (fun b => (Value.slice vA bq.length vc).ownBlock = some b) _ _ _ from ⟨HO2.out.1.1, HO2.out.1.2.1, fun _ hk => hk⟩) _ A2 _ c2 (Cd.vi x) rfl HR2.out HLB.out ?_); intro v3 w3 hown hgrow; have hw3 : Ow w3 (fun b => W.heap.size ≤ b ∨ w2.heap.size ≤ b) v3 _ _ := hown.mono (fun b _ hb => hb.elim (fun h => Or.inl (HO2.out.1.2.2 b h)) Or.inr); have HO3 := Lib.hid (Own.step HO2.out hgrow hw3); have HV3 := Lib.hid hown.2.2; have HF3 := Lib.hid (HF2.out.grown hgrow fun k hk => HVO.out k hk); have HB3 := Lib.hid (HB2.out.grown_ HO2.out.1.1 (by decide) hgrow); clear hown hgrow hw3)
   go_roundw
   case rel =>
    refine ⟨q + 1, by omega, by go_num, ?_, HB3.out, HF3.out, fun k hk => ?_⟩
    rotate_left
    ·rcases HV3.out k hk with h | h
     ·exact HVO.out k h
     ·exact Or.inr (Nat.le_trans HF2.out.size h)
    have h9 := HO3.out
    rw [flat_take Cd.vi HXX.out.1, ← List.append_assoc, ← HBQ.out]
    exact h9
   case measure => simp [intOf]; omega
  ·have d1 : decide ((q : Int) < (m : Int)) = false := decide_eq_false (by omega)
   have d2 : decide (q < m) = false := decide_eq_false hlt
   have HQ := Lib.hid (show q = m by omega)
   clear hown hblk
   go_wp2_with fail
   go_ret
   have h9 := HBQ.out
   rw [HQ.out, ← HM.out.1, List.take_length] at h9
   refine ⟨_, rfl, ?_, HFR.out, HVO.out⟩
   rw [← h9]
   exact HO.out
set_option maxHeartbeats 4000000 in
theorem put_any (W w : World) (v : Value) (bs : List Nat) (h : Own W w v bs) (g m c : Nat) (xs : List Nat) (hb : Blk w g 22 (u64s xs)) (hm : xs.length = m) (hx : ∀ x ∈ xs, x < 18446744073709551616) (hl : bs.length + 10 * m ≤ 1099511600000) :
  Calls Tryz.prog 46 #[v, .slice (some ⟨g, 0, none⟩) m c] w fun e w' => ∃ v', e = .returned v' ∧ Own W w' v' (bs ++ xs.flatMap Cd.vi) := by
 refine (put_fr W w v bs h g m c xs hb hm hx hl).mono ?_
 rintro e w' ⟨v', he, ho, _⟩
 exact ⟨v', he, ho⟩
end Go.Proofs.YtdhgbkibbileiaaGreat
