/-
  STAGE 12: Victim; Waits, All, Victim of a table and of nobody's.
-/
import Derived.Test.YtlblgfpafdfilaaDoorLX
namespace Go.Proofs.YtlblgfpafdfilaaDoor
open Go.RowKit Go.Sort

set_option maxRecDepth 100000 in
set_option maxHeartbeats 2000000 in
theorem victim_of (pa : Option Addr) (w : World) (g : Nat) (A : Option Addr) (c : Nat) (ls : List LK) (hg : Gw w) (f : Nat) (s : FSt) (hM : ringsM ls f ls.length = some s)
    (hor : Calls Tryd.prog 31 #[.pointer pa] (w.alloc (.cells #[.pointer pa] 25)) fun e w' => e = .returned (.pointer (some ⟨g, 0, none⟩)) ∧ TR w' g A c ls ∧ Below (w.heap.size + 1) (w.alloc (.cells #[.pointer pa] 25)) w' ∧ g ≠ w.heap.size ∧ ∀ b, A = some ⟨b, 0, none⟩ → ls.length = 0 ∨ b ≠ w.heap.size) :
    Calls Tryd.prog 17 #[.pointer pa] w fun e w' => e = .returned (.int .u32 (s.v : Int)) ∧ Below w.heap.size w w' := by
  obtain ⟨W, hW⟩ : ∃ W, W = w.alloc (.cells #[.pointer pa] 25) := ⟨_, rfl⟩
  rw [← hW] at hor
  have HOR := Lib.hid hor
  have HG := Lib.hid hg
  have HM := Lib.hid hM
  have HB := Lib.hid (show Below w.heap.size w W by rw [hW]; exact (Below.refl _ _).alloc (Nat.le_refl _) _)
  have H9 := Lib.hid (show Blk W w.heap.size 25 #[.pointer pa] by rw [hW]; exact Blk.new _ _ _)
  have HS := Lib.hid (show W.heap.size = w.heap.size + 1 by rw [hW]; simp)
  have k9 := H9.out.cell 0
  simp only [List.getElem?_toArray, List.getElem?_cons_zero] at k9
  clear hor hg hM
  go_enter Tryd.func17, Tryd.ntmps17
  go_upto_region 1 with fail
  rw [← hW]
  clear hW
  go_upto_region 2 with (go_at_call 31; with_reducible refine HOR.out.mono ?_; rintro e w1 ⟨rfl, hT, hb1, hne, hA⟩; have HT := Lib.hid hT; have HB1 := Lib.hid hb1; have HNE := Lib.hid hne; have HA := Lib.hid hA; have hk9 := H9.out.below hb1 (Nat.lt_succ_self _); have r9 := hk9.cell 0; have f9 := hk9.frozen 0; simp only [List.getElem?_toArray, List.getElem?_cons_zero] at r9; have HK9 := Lib.hid hk9; clear hT hb1 hne hA hk9)
  obtain ⟨w2, hw2⟩ : ∃ w2, w2 = w1.setCell ⟨w.heap.size, 0, none⟩ (.pointer (some ⟨g, 0, none⟩)) := ⟨_, rfl⟩
  have hf2 : Fr w1 w2 fun b => b = w.heap.size := by rw [hw2]; exact fr1 _ _ _ _
  have h9 : Blk w2 w.heap.size 25 #[.pointer (some ⟨g, 0, none⟩)] := by rw [hw2]; exact HK9.out.set_ 0 _
  have hT2 : TR w2 g A c ls := HT.out.keep hf2 HNE.out HA.out
  have hBw2 : Below w.heap.size w w2 := by
    have h1 := HB.out.size
    have h2 := HS.out
    exact HB.out.trans ((HB1.out.mono (Nat.le_succ _)).trans (hf2.below (fun b e => by omega) (Nat.le_trans h1 HB1.out.size)))
  obtain ⟨w3, hw3⟩ : ∃ w3, w3 = w2.alloc (.cells #[.int .u32 0] 34) := ⟨_, rfl⟩
  have hb3 : Below w2.heap.size w2 w3 := by rw [hw3]; exact (Below.refl _ _).alloc (Nat.le_refl _) _
  have HRI : Hid (RI w3 g A c w2.heap.size w.heap.size ls) := Lib.hid (by
    have hs2 : w.heap.size < w2.heap.size := h9.lt
    refine ⟨hT2.up hb3, HG.out.below (below_trans hBw2 hb3), by rw [hw3]; exact Blk.new _ _ _, h9.below hb3 h9.lt, fun b e => ?_, hT2.blk.lt, hs2, ?_⟩
    · rcases Nat.eq_zero_or_pos ls.length with h0 | h0
      · exact Or.inl h0
      · obtain ⟨b', e', hc⟩ := hT2.row 0 _ (List.getElem?_eq_getElem h0)
        rw [e] at e'
        injection e' with e'
        injection e' with e'
        exact Or.inr (by rw [e']; exact hc.lt)
    · have := HG.out.2; omega)
  have HRC := Lib.hid (rings_any g A c w2.heap.size w.heap.size ls w3 HRI.out f s HM.out)
  have HB3 := Lib.hid (below_trans hBw2 hb3)
  have HLT := Lib.hid hBw2.size
  have k9 := HRI.out.b9.cell 0
  simp only [List.getElem?_toArray, List.getElem?_cons_zero] at k9
  rw [← hw2]
  clear hw2 hf2 h9 hT2 hBw2 hb3 r9 f9
  go_upto_region 3 with fail
  rw [← hw3]
  clear hw3
  go_wp2_with (go_at_call 36; with_reducible refine HRC.out.mono ?_; rintro e w4 ⟨rfl, hv, hf⟩; have HV := Lib.hid hv; have HF := Lib.hid hf; have kv := hv.cell 0; simp only [List.getElem?_toArray, List.getElem?_cons_zero] at kv; clear hv hf)
  go_ret
  exact ⟨rfl, HB3.out.trans (HF.out.below (fun b e => by rw [e]; exact HLT.out) HB3.out.size)⟩
theorem A_ne {w : World} {g : Nat} {A : Option Addr} {c : Nat} {ls : List LK} (h : TR w g A c ls) : ∀ b, A = some ⟨b, 0, none⟩ → ls.length = 0 ∨ b ≠ w.heap.size := fun b e => by
  rcases Nat.eq_zero_or_pos ls.length with h0 | h0
  · exact Or.inl h0
  · obtain ⟨b', e', hc⟩ := h.row 0 _ (List.getElem?_eq_getElem h0)
    rw [e] at e'
    injection e' with e'
    injection e' with e'
    right
    have := hc.lt
    omega
theorem victim_any (w : World) (g : Nat) (A : Option Addr) (c : Nat) (ls : List LK) (hT : TR w g A c ls) (hg : Gw w) (f : Nat) (s : FSt) (hM : ringsM ls f ls.length = some s) :
    Calls Tryd.prog 17 #[.pointer (some ⟨g, 0, none⟩)] w fun e w' => e = .returned (.int .u32 (s.v : Int)) ∧ Below w.heap.size w w' :=
  victim_of _ w g A c ls hg f s hM ((orNone_some g _).mono fun e w' ⟨he, hw⟩ => by
    subst hw
    exact ⟨he, hT.up ((Below.refl _ _).alloc (Nat.le_refl _) _), Below.refl _ _, by have := hT.blk.lt; omega, A_ne hT⟩)
theorem orNone_at (w : World) : Calls Tryd.prog 31 #[.pointer none] w fun e w' => e = .returned (.pointer (some ⟨w.heap.size, 0, none⟩)) ∧ TR w' w.heap.size none 0 [] ∧ Below w.heap.size w w' := by
  have H1 := Lib.hid (new29 w)
  have H2 := Lib.hid (show Below w.heap.size w (w.alloc (.cells none29 29)) from (Below.refl _ _).alloc (Nat.le_refl _) _)
  unfold none29 at H1 H2
  go_enter Tryd.func31, Tryd.ntmps31
  go_wp2_with fail
  go_ret
  exact ⟨rfl, H1.out, H2.out⟩
theorem victim_nil (w : World) (hg : Gw w) : Calls Tryd.prog 17 #[.pointer none] w fun e w' => e = .returned (.int .u32 0) ∧ Below w.heap.size w w' :=
  victim_of _ w (w.heap.size + 1) none 0 [] hg 1 ⟨[], [], 0, 0⟩ rfl ((orNone_at (w.alloc (.cells #[.pointer none] 25))).mono fun e w' ⟨he, ht, hb⟩ => by
    rw [World.size_alloc] at he ht hb
    exact ⟨he, ht, hb, by omega, fun b e => by cases e⟩)
theorem waits_any (w : World) (g : Nat) (A : Option Addr) (c : Nat) (ls : List LK) (hT : TR w g A c ls) (hg : Gw w) :
    Calls Tryd.prog 13 #[.pointer (some ⟨g, 0, none⟩)] w fun e w' => ∃ v pl, e = .returned v ∧ Rises ls pl ∧ OwR w' 47 2 pf v (waitsM ls pl) ∧ Below w.heap.size w w' :=
  waits_of _ w g A c ls hg ((orNone_some g w).mono fun e w' ⟨he, hw⟩ => by subst hw; exact ⟨he, hT, Below.refl _ _⟩)
theorem waits_nil (w : World) (hg : Gw w) : Calls Tryd.prog 13 #[.pointer none] w fun e w' => ∃ v, e = .returned v ∧ OwR w' 47 2 pf v [] ∧ Below w.heap.size w w' :=
  (waits_of _ w w.heap.size none 0 [] hg (orNone_at w)).mono fun e w' ⟨v, pl, he, hr, ho, hb⟩ => ⟨v, he, by
    have : pl = [] := List.eq_nil_of_length_eq_zero hr.len
    subst this
    exact ho, hb⟩
end Go.Proofs.YtlblgfpafdfilaaDoor
