/-
STAGE 12: Victim; Waits, All, Victim of a table and of nobody's. STAGE 12: the answers of one small table, as mathematics.
-/
import Derived.Test.YtlblgfpafdfilaaDoorLX
namespace Go.Proofs.YtlblgfpafdfilaaDoor
open Go.RowKit Go.Sort

set_option maxRecDepth 100000 in
set_option maxHeartbeats 2000000 in
theorem victim_of (pa : Option Addr) (w : World) (g : Nat) (A : Option Addr) (c : Nat) (ls : List LK) (hg : Gw w) (f : Nat) (s : FSt) (hM : ringsM ls f ls.length = some s)
    (hor : Calls Tryd.prog 31 #[.pointer pa] (w.alloc (.cells #[.pointer pa] 25)) fun e w' => e = .returned (.pointer (some ⟨g, 0, none⟩)) ∧ TR w' g A c ls ∧ Below (w.heap.size + 1) (w.alloc (.cells #[.pointer pa] 25)) w' ∧ g ≠ w.heap.size ∧ ∀ b, A = some ⟨b, 0, none⟩ → ls.length = 0 ∨ b ≠ w.heap.size) :
    Calls Tryd.prog 17 #[.pointer pa] w fun e w' => e = .returned (.int .u32 (s.v : Int)) ∧ Below w.heap.size w w' := by
  obtain ⟨W, hW⟩ : ∃ W, W = w.alloc (.cells #[.pointer pa] 25) := ⟨_, rfl⟩
  rw [← hW] at hor
  have HOR := Lib.hid hor
  have HG := Lib.hid hg
  have HM := Lib.hid hM
  have HB := Lib.hid (show Below w.heap.size w W by rw [hW]; exact (Below.refl _ _).alloc (Nat.le_refl _) _)
  have H9 := Lib.hid (show Blk W w.heap.size 25 #[.pointer pa] by rw [hW]; exact Blk.new _ _ _)
  have HS := Lib.hid (show W.heap.size = w.heap.size + 1 by rw [hW]; simp)
  have k9 := H9.out.cell 0
  simp only [List.getElem?_toArray, List.getElem?_cons_zero] at k9
  clear hor hg hM
  go_enter Tryd.func17, Tryd.ntmps17
  go_upto_region 1 with fail
  rw [← hW]
  clear hW
  go_upto_region 2 with (go_at_call 31; with_reducible refine HOR.out.mono ?_; rintro e w1 ⟨rfl, hT, hb1, hne, hA⟩; have HT := Lib.hid hT; have HB1 := Lib.hid hb1; have HNE := Lib.hid hne; have HA := Lib.hid hA; have hk9 := H9.out.below hb1 (Nat.lt_succ_self _); have r9 := hk9.cell 0; have f9 := hk9.frozen 0; simp only [List.getElem?_toArray, List.getElem?_cons_zero] at r9; have HK9 := Lib.hid hk9; clear hT hb1 hne hA hk9)
  obtain ⟨w2, hw2⟩ : ∃ w2, w2 = w1.setCell ⟨w.heap.size, 0, none⟩ (.pointer (some ⟨g, 0, none⟩)) := ⟨_, rfl⟩
  have hf2 : Fr w1 w2 fun b => b = w.heap.size := by rw [hw2]; exact fr1 _ _ _ _
  have h9 : Blk w2 w.heap.size 25 #[.pointer (some ⟨g, 0, none⟩)] := by rw [hw2]; exact HK9.out.set_ 0 _
  have hT2 : TR w2 g A c ls := HT.out.keep hf2 HNE.out HA.out
  have hBw2 : Below w.heap.size w w2 := by
    have h1 := HB.out.size
    have h2 := HS.out
    exact HB.out.trans ((HB1.out.mono (Nat.le_succ _)).trans (hf2.below (fun b e => by omega) (Nat.le_trans h1 HB1.out.size)))
  obtain ⟨w3, hw3⟩ : ∃ w3, w3 = w2.alloc (.cells #[.int .u32 0] 34) := ⟨_, rfl⟩
  have hb3 : Below w2.heap.size w2 w3 := by rw [hw3]; exact (Below.refl _ _).alloc (Nat.le_refl _) _
  have HRI : Hid (RI w3 g A c w2.heap.size w.heap.size ls) := Lib.hid (by
    have hs2 : w.heap.size < w2.heap.size := h9.lt
    refine ⟨hT2.up hb3, HG.out.below (below_trans hBw2 hb3), by rw [hw3]; exact Blk.new _ _ _, h9.below hb3 h9.lt, fun b e => ?_, hT2.blk.lt, hs2, ?_⟩
    · rcases Nat.eq_zero_or_pos ls.length with h0 | h0
      · exact Or.inl h0
      · obtain ⟨b', e', hc⟩ := hT2.row 0 _ (List.getElem?_eq_getElem h0)
        rw [e] at e'
        injection e' with e'
        injection e' with e'
        exact Or.inr (by rw [e']; exact hc.lt)
    · have := HG.out.2; omega)
  have HRC := Lib.hid (rings_any g A c w2.heap.size w.heap.size ls w3 HRI.out f s HM.out)
  have HB3 := Lib.hid (below_trans hBw2 hb3)
  have HLT := Lib.hid hBw2.size
  have k9 := HRI.out.b9.cell 0
  simp only [List.getElem?_toArray, List.getElem?_cons_zero] at k9
  rw [← hw2]
  clear hw2 hf2 h9 hT2 hBw2 hb3 r9 f9
  go_upto_region 3 with fail
  rw [← hw3]
  clear hw3
  go_wp2_with (go_at_call 36; with_reducible refine HRC.out.mono ?_; rintro e w4 ⟨rfl, hv, hf⟩; have HV := Lib.hid hv; have HF := Lib.hid hf; have kv := hv.cell 0; simp only [List.getElem?_toArray, List.getElem?_cons_zero] at kv; clear hv hf)
  go_ret
  exact ⟨rfl, HB3.out.trans (HF.out.below (fun b e => by rw [e]; exact HLT.out) HB3.out.size)⟩
theorem A_ne {w : World} {g : Nat} {A : Option Addr} {c : Nat} {ls : List LK} (h : TR w g A c ls) : ∀ b, A = some ⟨b, 0, none⟩ → ls.length = 0 ∨ b ≠ w.heap.size := fun b e => by
  rcases Nat.eq_zero_or_pos ls.length with h0 | h0
  · exact Or.inl h0
  · obtain ⟨b', e', hc⟩ := h.row 0 _ (List.getElem?_eq_getElem h0)
    rw [e] at e'
    injection e' with e'
    injection e' with e'
    right
    have := hc.lt
    omega
theorem victim_any (w : World) (g : Nat) (A : Option Addr) (c : Nat) (ls : List LK) (hT : TR w g A c ls) (hg : Gw w) (f : Nat) (s : FSt) (hM : ringsM ls f ls.length = some s) :
    Calls Tryd.prog 17 #[.pointer (some ⟨g, 0, none⟩)] w fun e w' => e = .returned (.int .u32 (s.v : Int)) ∧ Below w.heap.size w w' :=
  victim_of _ w g A c ls hg f s hM ((orNone_some g _).mono fun e w' ⟨he, hw⟩ => by
    subst hw
    exact ⟨he, hT.up ((Below.refl _ _).alloc (Nat.le_refl _) _), Below.refl _ _, by have := hT.blk.lt; omega, A_ne hT⟩)
theorem orNone_at (w : World) : Calls Tryd.prog 31 #[.pointer none] w fun e w' => e = .returned (.pointer (some ⟨w.heap.size, 0, none⟩)) ∧ TR w' w.heap.size none 0 [] ∧ Below w.heap.size w w' := by
  have H1 := Lib.hid (new29 w)
  have H2 := Lib.hid (show Below w.heap.size w (w.alloc (.cells none29 29)) from (Below.refl _ _).alloc (Nat.le_refl _) _)
  unfold none29 at H1 H2
  go_enter Tryd.func31, Tryd.ntmps31
  go_wp2_with fail
  go_ret
  exact ⟨rfl, H1.out, H2.out⟩
theorem victim_nil (w : World) (hg : Gw w) : Calls Tryd.prog 17 #[.pointer none] w fun e w' => e = .returned (.int .u32 0) ∧ Below w.heap.size w w' :=
  victim_of _ w (w.heap.size + 1) none 0 [] hg 1 ⟨[], [], 0, 0⟩ rfl ((orNone_at (w.alloc (.cells #[.pointer none] 25))).mono fun e w' ⟨he, ht, hb⟩ => by
    rw [World.size_alloc] at he ht hb
    exact ⟨he, ht, hb, by omega, fun b e => by cases e⟩)
theorem waits_any (w : World) (g : Nat) (A : Option Addr) (c : Nat) (ls : List LK) (hT : TR w g A c ls) (hg : Gw w) :
    Calls Tryd.prog 13 #[.pointer (some ⟨g, 0, none⟩)] w fun e w' => ∃ v pl, e = .returned v ∧ Rises ls pl ∧ OwR w' 47 2 pf v (waitsM ls pl) ∧ Below w.heap.size w w' :=
  waits_of _ w g A c ls hg ((orNone_some g w).mono fun e w' ⟨he, hw⟩ => by subst hw; exact ⟨he, hT, Below.refl _ _⟩)
theorem waits_nil (w : World) (hg : Gw w) : Calls Tryd.prog 13 #[.pointer none] w fun e w' => ∃ v, e = .returned v ∧ OwR w' 47 2 pf v [] ∧ Below w.heap.size w w' :=
  (waits_of _ w w.heap.size none 0 [] hg (orNone_at w)).mono fun e w' ⟨v, pl, he, hr, ho, hb⟩ => ⟨v, he, by
    have : pl = [] := List.eq_nil_of_length_eq_zero hr.len
    subst this
    exact ho, hb⟩
end Go.Proofs.YtlblgfpafdfilaaDoor
namespace Go.Proofs.YtlblgfpafdfilaaDoor
open Go.RowKit Go.Sort

def x5 : Th := ⟨false, 5, ⟨#[]⟩, ⟨#[]⟩⟩
theorem seq_self (a : ByteArray) : seq a a = true := by unfold seq; exact beq_self_eq_true _
theorem bless_irr : ∀ a : List UInt8, Op.bytesLess a a = false
  | [] => by simp [Op.bytesLess]
  | x :: a => by
    have := bless_irr a
    simp [Op.bytesLess, this]
theorem slt_self (a : ByteArray) : slt a a = false := bless_irr _
theorem emp0 : emp ⟨#[]⟩ = true := seq_self _
theorem me5 : meetM x5 x5 = true := by simp [meetM, alikeM, aheadM, x5, emp0]
theorem li5 : liesM x5 x5 = true := by simp [liesM, alikeM, x5, emp0, slt_self]
theorem ma5 (m : Int) (h : 1 ≤ m ∧ m ≤ 4) : mayM x5 m = true := by simp [mayM, x5, emp0, h.1, h.2]
def L1 : List LK := [⟨1, x5, 3, true⟩]
def L2 : List LK := [⟨1, x5, 3, true⟩, ⟨2, x5, 2, false⟩]
def L3 : List LK := [⟨1, x5, 3, true⟩, ⟨2, x5, 2, false⟩, ⟨3, x5, 1, true⟩]
theorem cv1 : conM 3 2 = true := by decide
theorem cv2 : conM 3 1 = false := by decide
theorem cv3 : conM 2 1 = false := by decide
theorem cv4 : conM 1 2 = false := by decide
theorem cv5 : covM 3 1 = true := by decide
theorem ask1 : askM 1 x5 3 [] = ((true, 0), L1) := by
  simp [askM, ma5, hasM, freeM, freeTo, setH, L1, waitM, passP]
theorem ask2 : askM 2 x5 2 L1 = ((false, 0), L2) := by
  simp [askM, ma5, hasM, hasP, waitsP, freeM, freeTo, setH, L1, L2, waitM, passP, me5, cv1, List.range_succ]
theorem ask3 : askM 3 x5 1 L2 = ((true, 0), L3) := by
  simp [askM, ma5, hasM, hasP, waitsP, freeM, freeTo, setH, L2, L3, waitM, passP, me5, cv2, cv3, List.range_succ]
theorem ask4 : askM 2 x5 2 L3 = ((false, 121), L3) := by
  simp [askM, ma5, waitsP, L3]
theorem has1 : hasM 1 x5 1 L3 = true := by simp [hasM, hasP, ma5, li5, cv5, L3]
theorem pl3 {pl : List Nat} (h : Rises L3 pl) : pl = [0, 1, 2] := by
  obtain ⟨hp, hs⟩ := h
  have hl := hp.length_eq
  have hnd : pl.Nodup := hp.nodup_iff.2 List.nodup_range
  have hm : ∀ p ∈ pl, p < 3 := fun p hp' => List.mem_range.1 (hp.mem_iff.1 hp')
  match pl, hl with
  | [a, b, c], _ =>
    have ha := hm a (by simp)
    have hb := hm b (by simp)
    have hc := hm c (by simp)
    have ht : ∀ p, p < 3 → (L3.getD p okz).t = p + 1 := by
      intro p hp3
      obtain rfl | rfl | rfl : p = 0 ∨ p = 1 ∨ p = 2 := by omega
      all_goals rfl
    have h1 := hs 0 1 a b (by omega) rfl rfl
    have h2 := hs 1 2 b c (by omega) rfl rfl
    rw [ht a ha, ht b hb] at h1
    rw [ht b hb, ht c hc] at h2
    simp at hnd
    obtain rfl : a = 0 := by omega
    obtain rfl : b = 1 := by omega
    obtain rfl : c = 2 := by omega
    rfl
theorem waits3 : waitsM L3 [0, 1, 2] = [(2, 1)] := by
  simp [waitsM, outM, inL, inM, L3, waitM, passP, me5, cv1, cv4]
theorem last3 : lastsF L3 0 = 0 ∧ lastsF L3 1 = 1 ∧ lastsF L3 2 = 2 := by decide
theorem pass3 (q : LK) : L3.any (passP q) = (passP q ⟨1, x5, 3, true⟩ || passP q ⟨3, x5, 1, true⟩) := by
  simp [L3, passP]
theorem wait3 (p k : Nat) (hp : p = 0 ∨ p = 1) (hk : k < 3) : waitM (L3.any (passP (L3.getD p okz))) (L3.getD p okz) p (L3.getD k okz) k = (p == 1 && k == 0) := by
  obtain rfl | rfl | rfl : k = 0 ∨ k = 1 ∨ k = 2 := by omega
  all_goals
    rcases hp with rfl | rfl
    all_goals simp [L3, waitM, passP, me5, cv1, cv4, show conM 1 3 = false by decide]
theorem follow30 (f : Nat) : followM L3 (f + 1) 0 ⟨[0, 1, 0], [1], 1, 0⟩ = some (⟨[closedN, 1, 0], [1], 2, 0⟩, 2) := by
  have h : ∀ k, k ≤ 3 → loopM (followM L3 f) L3 (L3.getD 0 okz) 0 (⟨[2, 1, 0], [1, 0], 2, 0⟩, 2) k = some (⟨[2, 1, 0], [1, 0], 2, 0⟩, 2) := by
    intro k hk
    induction k with
    | zero => rfl
    | succ k ih =>
      rw [loopM, ih (by omega), Option.bind_some, stepM, wait3 0 k (Or.inl rfl) (by omega)]
      simp
  rw [followM, if_neg (by decide)]
  simp only [List.set_cons_zero, List.cons_append, List.nil_append]
  rw [show L3.length = 3 from rfl, h 3 (by omega)]
  simp [endM, closeM]
theorem follow31 : followM L3 4 1 ⟨[0, 0, 0], [], 0, 0⟩ = some (⟨[closedN, closedN, 0], [], 2, 0⟩, 1) := by
  have h1 : loopM (followM L3 3) L3 (L3.getD 1 okz) 1 (⟨[0, 1, 0], [1], 1, 0⟩, 1) 1 = some (⟨[closedN, 1, 0], [1], 2, 0⟩, 1) := by
    rw [loopM, loopM, Option.bind_some, stepM, wait3 1 0 (Or.inr rfl) (by omega)]
    simp [last3.1, follow30 2, closedN]
  have h : ∀ k, k ≤ 2 → loopM (followM L3 3) L3 (L3.getD 1 okz) 1 (⟨[0, 1, 0], [1], 1, 0⟩, 1) (k + 1) = some (⟨[closedN, 1, 0], [1], 2, 0⟩, 1) := by
    intro k hk
    induction k with
    | zero => exact h1
    | succ k ih =>
      rw [loopM, ih (by omega), Option.bind_some, stepM, wait3 1 (k + 1) (Or.inr rfl) (by omega)]
      simp
  rw [followM, if_neg (by decide)]
  simp only [List.set_cons_zero, List.set_cons_succ, List.nil_append]
  rw [show L3.length = 3 from rfl]
  erw [h 2 (by omega)]
  simp [endM, closeM]
theorem rings3 : ringsM L3 4 L3.length = some ⟨[closedN, closedN, 0], [], 2, 0⟩ := by
  show ringsM L3 4 3 = _
  have h0 : ringsM L3 4 1 = some ⟨[0, 0, 0], [], 0, 0⟩ := by
    rw [ringsM, ringsM, Option.bind_some]
    rfl
  have h1 : ringsM L3 4 2 = some ⟨[closedN, closedN, 0], [], 2, 0⟩ := by
    rw [ringsM, h0, Option.bind_some, if_pos ⟨rfl, rfl⟩, follow31]
    rfl
  rw [ringsM, h1, Option.bind_some, if_neg (by simp [L3])]
end Go.Proofs.YtlblgfpafdfilaaDoor
