/-
STAGE 12: alive.
-/
import Derived.Test.YtlblgfpafdfilaaDoorLY
namespace Go.Proofs.YtlblgfpafdfilaaDoor
open Go.RowKit Go.Sort

theorem ask_any (t : Nat) (x : Th) (m : Int) (g : Nat) (v : Value) (ls : List LK) (w : World) (hT : TB w g v ls) (hg : Gw w) (ht : t < 4294967296) (hi : x.i < 4294967296) (hA : x.a.size ≤ 9223372036854775807) (hB : x.b.size ≤ 9223372036854775807) :
    Calls Tryd.prog 20 #[.pointer (some ⟨g, 0, none⟩), .int .u32 (t : Int), x.agg, .int .i64 m] w (AskO w g v (askM t x m ls)) := by
  by_cases h : ((t == 0 || !mayM x m) = true ∨ ls.any (waitsP t) = true ∨ hasM t x m ls = true ∨ 16384 ≤ ls.length)
  · exact ask_old t x m g v ls w hT hg hA hB h
  · have h1 : (t == 0 || !mayM x m) = false := by cases hc : (t == 0 || !mayM x m) with
      | false => rfl
      | true => exact absurd (Or.inl hc) h
    have h2 : ls.any (waitsP t) = false := by cases hc : ls.any (waitsP t) with
      | false => rfl
      | true => exact absurd (Or.inr (Or.inl hc)) h
    have h3 : hasM t x m ls = false := by cases hc : hasM t x m ls with
      | false => rfl
      | true => exact absurd (Or.inr (Or.inr (Or.inl hc))) h
    exact ask_new t x m g v ls w hT hg ht hi h1 h2 h3 (by
      rcases Nat.lt_or_ge ls.length 16384 with h4 | h4
      · exact h4
      · exact absurd (Or.inr (Or.inr (Or.inr h4))) h)
theorem Chg.up {w w' w2 : World} {g : Nat} {v v' : Value} {ls' : List LK} (h : Chg w w' g v v' ls') (hb : Below w'.heap.size w' w2) : Chg w w2 g v v' ls' :=
  ⟨h.tb.up hb, h.fr.same (Fr.of_below hb _), h.own⟩
/-- a table that a law has made: what lies in its world, and all else as it was -/
structure TL (w0 w : World) (z g : Nat) (ls : List LK) : Prop where
  tb : ∃ v, TB w g v ls ∧ (∀ b, v.ownBlock = some b → z ≤ b)
  bel : Below z w0 w
  gz : z ≤ g
  gw : Gw w
theorem TL.chg {w0 w w' : World} {z g : Nat} {v v' : Value} {ls ls' : List LK} (hT : TB w g v ls) (hv : ∀ b, v.ownBlock = some b → z ≤ b) (hb : Below z w0 w) (hz : z ≤ g) (hg : Gw w) (hzs : z ≤ w0.heap.size) (h : Chg w w' g v v' ls') : TL w0 w' z g ls' := by
  refine ⟨⟨v', h.tb, fun b e => ?_⟩, hb.trans (h.fr.below (fun b e => e.elim (fun e => by omega) fun e => hv b e) (Nat.le_trans hzs hb.size)), hz, h.gw hT hg⟩
  rcases h.own b e with e | e
  · exact hv b e
  · exact Nat.le_trans (Nat.le_trans hzs hb.size) e
/-- one Ask of a law -/
theorem TL.ask {w0 w : World} {z g : Nat} {ls : List LK} (h : TL w0 w z g ls) (hzs : z ≤ w0.heap.size) (t : Nat) (x : Th) (m : Int) (ht : t < 4294967296) (hi : x.i < 4294967296) (hA : x.a.size ≤ 9223372036854775807) (hB : x.b.size ≤ 9223372036854775807) :
    Calls Tryd.prog 20 #[.pointer (some ⟨g, 0, none⟩), .int .u32 (t : Int), x.agg, .int .i64 m] w fun e w' => e = .returned (.tuple #[.bool (askM t x m ls).1.1, .int .i64 ((askM t x m ls).1.2 : Int)]) ∧ TL w0 w' z g (askM t x m ls).2 ∧ ∀ a ty cs, Blk w a ty cs → ty ≠ 46 → ty ≠ 29 → Blk w' a ty cs := by
  obtain ⟨⟨v, hT, hv⟩, hb, hz, hg⟩ := h
  exact (ask_any t x m g v ls w hT hg ht hi hA hB).mono fun e w' ⟨he, v', hc⟩ => ⟨he, TL.chg hT hv hb hz hg hzs hc, fun a ty cs hk h1 h2 => hk.keep hc.fr fun e => by
    rcases e with e | e
    · exact Blk.ne_ hk hT.blk h2 e
    · exact Blk.own_ne hk hT.own (fun e => h1 e.symm) e.symm⟩
theorem TL.up {w0 w w' : World} {z g : Nat} {ls : List LK} (h : TL w0 w z g ls) (hzs : z ≤ w0.heap.size) (hb : Below w.heap.size w w') : TL w0 w' z g ls := by
  obtain ⟨⟨v, hT, hv⟩, hb0, hz, hg⟩ := h
  exact ⟨⟨v, hT.up hb, hv⟩, hb0.trans (hb.mono (Nat.le_trans hzs hb0.size)), hz, hg.below hb⟩
theorem TL.waits {w0 w : World} {z g : Nat} {ls : List LK} (h : TL w0 w z g ls) (hzs : z ≤ w0.heap.size) :
    Calls Tryd.prog 13 #[.pointer (some ⟨g, 0, none⟩)] w fun e w' => ∃ v pl, e = .returned v ∧ Rises ls pl ∧ OwR w' 47 2 pf v (waitsM ls pl) ∧ TL w0 w' z g ls ∧ Below w.heap.size w w' := by
  obtain ⟨⟨v, hT, hv⟩, hb, hz, hg⟩ := h
  obtain ⟨A, c, _, _, _, hTR⟩ := hT.tr
  exact (waits_any w g A c ls hTR hg).mono fun e w' ⟨v', pl, he, hr, ho, hb'⟩ => ⟨v', pl, he, hr, ho, TL.up ⟨⟨v, hT, hv⟩, hb, hz, hg⟩ hzs hb', hb'⟩
theorem TL.has {w0 w : World} {z g : Nat} {ls : List LK} (h : TL w0 w z g ls) (hzs : z ≤ w0.heap.size) (t : Nat) (x : Th) (m : Int) (hA : x.a.size ≤ 9223372036854775807) (hB : x.b.size ≤ 9223372036854775807) :
    Calls Tryd.prog 21 #[.pointer (some ⟨g, 0, none⟩), .int .u32 (t : Int), x.agg, .int .i64 m] w fun e w' => e = .returned (.bool (hasM t x m ls)) ∧ TL w0 w' z g ls ∧ Below w.heap.size w w' := by
  obtain ⟨⟨v, hT, hv⟩, hb, hz, hg⟩ := h
  obtain ⟨A, c, _, _, _, hTR⟩ := hT.tr
  exact (has_any g A c ls w hTR hg t x m hA hB).mono fun e w' ⟨he, hb'⟩ => ⟨he, TL.up ⟨⟨v, hT, hv⟩, hb, hz, hg⟩ hzs hb', hb'⟩
theorem TL.all {w0 w : World} {z g : Nat} {ls : List LK} (h : TL w0 w z g ls) (hzs : z ≤ w0.heap.size) :
    Calls Tryd.prog 12 #[.pointer (some ⟨g, 0, none⟩)] w fun e w' => ∃ v, e = .returned v ∧ NewL w ls v w' ∧ TL w0 w' z g ls := by
  obtain ⟨⟨v, hT, hv⟩, hb, hz, hg⟩ := h
  obtain ⟨A, c, _, _, h0, hTR⟩ := hT.tr
  exact (all_any g A c ls w hTR h0).mono fun e w' ⟨v', he, hn⟩ => ⟨v', he, hn, TL.up ⟨⟨v, hT, hv⟩, hb, hz, hg⟩ hzs hn.2.1⟩
theorem TL.victim {w0 w : World} {z g : Nat} {ls : List LK} (h : TL w0 w z g ls) (hzs : z ≤ w0.heap.size) (f : Nat) (s : FSt) (hM : ringsM ls f ls.length = some s) :
    Calls Tryd.prog 17 #[.pointer (some ⟨g, 0, none⟩)] w fun e w' => e = .returned (.int .u32 (s.v : Int)) ∧ TL w0 w' z g ls ∧ Below w.heap.size w w' := by
  obtain ⟨⟨v, hT, hv⟩, hb, hz, hg⟩ := h
  obtain ⟨A, c, _, _, _, hTR⟩ := hT.tr
  exact (victim_any w g A c ls hTR hg f s hM).mono fun e w' ⟨he, hb'⟩ => ⟨he, TL.up ⟨⟨v, hT, hv⟩, hb, hz, hg⟩ hzs hb', hb'⟩
theorem eq21 (w : World) : (binOp .eql 47 (.agg #[.int .u32 2, .int .u32 1]) (.agg #[.int .u32 2, .int .u32 1])).run Tryd.prog w = .ok (.bool true) w := by kernel_rfl
theorem TL.allN {w0 w : World} {z g : Nat} {ls : List LK} (h : TL w0 w z g ls) (hzs : z ≤ w0.heap.size) {n : Nat} (hn : ls.length = n) :
    Calls Tryd.prog 12 #[.pointer (some ⟨g, 0, none⟩)] w fun e w' => ∃ A c, e = .returned (.slice A n c) ∧ TL w0 w' z g ls :=
  (h.all hzs).mono fun e w' ⟨v, he, hn', ht⟩ => by
    obtain ⟨A, c, hv, _⟩ := hn'.1.form
    exact ⟨A, c, by rw [he, hv, hn], ht⟩
def box5 : Array Value := #[.bool false, .int .u32 5, .string ⟨#[]⟩, .string ⟨#[]⟩]
theorem okx5 : x5.i < 4294967296 ∧ x5.a.size ≤ 9223372036854775807 ∧ x5.b.size ≤ 9223372036854775807 := by
  have h : (⟨#[]⟩ : ByteArray).size = 0 := rfl
  exact ⟨by decide, by show (⟨#[]⟩ : ByteArray).size ≤ _; omega, by show (⟨#[]⟩ : ByteArray).size ≤ _; omega⟩
/-- an Ask of the small table -/
theorem TL.ask5 {w0 w : World} {z g : Nat} {ls ls' : List LK} (h : TL w0 w z g ls) (hzs : z ≤ w0.heap.size) (t : Nat) (m : Int) (ht : t < 4294967296) {r : Bool × Nat} (he : askM t x5 m ls = (r, ls')) :
    Calls Tryd.prog 20 #[.pointer (some ⟨g, 0, none⟩), .int .u32 (t : Int), .agg #[.bool false, .int .u32 5, .string ⟨#[]⟩, .string ⟨#[]⟩], .int .i64 m] w fun e w' => e = .returned (.tuple #[.bool r.1, .int .i64 (r.2 : Int)]) ∧ TL w0 w' z g ls' ∧ ∀ a ty cs, Blk w a ty cs → ty ≠ 46 → ty ≠ 29 → Blk w' a ty cs := by
  have := h.ask hzs t x5 m ht okx5.1 okx5.2.1 okx5.2.2
  rw [he] at this
  exact this
set_option maxRecDepth 100000 in
set_option maxHeartbeats 4000000 in
theorem alive_any (w : World) (hg : Gw w) : Calls Tryd.prog 9 #[] w fun e w' => e = .returned (.bool true) ∧ Below w.heap.size w w' := by
  obtain ⟨z, hz⟩ : ∃ z, z = w.heap.size := ⟨_, rfl⟩
  have HZ := Lib.hid hz
  have HN := Lib.hid ((new_any w hg.2).mono fun e w1 (h : e = .returned (.pointer (some ⟨w.heap.size, 0, none⟩)) ∧ TB w1 w.heap.size (.slice none 0 0) [] ∧ Below w.heap.size w w1) => (⟨by rw [hz]; exact h.1, by rw [hz]; exact ⟨⟨_, h.2.1, fun b e => by simp [Value.ownBlock] at e⟩, h.2.2, Nat.le_refl _, hg.below h.2.2⟩⟩ : e = .returned (.pointer (some ⟨z, 0, none⟩)) ∧ TL w w1 z z []))
  have HZS := Lib.hid (show z ≤ w.heap.size by rw [hz]; exact Nat.le_refl _)
  clear hg hz
  go_enter Tryd.func9, Tryd.ntmps9
  go_upto_region 5 with (go_at_call 10; with_reducible refine HN.out.mono ?_; rintro e w1 ⟨rfl, h1⟩; have H1 := Lib.hid h1; clear h1)
  obtain ⟨w2, hw2⟩ : ∃ w2, w2 = w1.alloc (.cells #[.bool false, .int .u32 5, .string ⟨#[]⟩, .string ⟨#[]⟩] 36) := ⟨_, rfl⟩
  have hb2 : Below w1.heap.size w1 w2 := by rw [hw2]; exact (Below.refl _ _).alloc (Nat.le_refl _) _
  have hk2 : Blk w2 w1.heap.size 36 #[.bool false, .int .u32 5, .string ⟨#[]⟩, .string ⟨#[]⟩] := by rw [hw2]; exact Blk.new _ _ _
  have H2 := Lib.hid (H1.out.up HZS.out hb2)
  obtain ⟨a, ha⟩ : ∃ a, a = w1.heap.size := ⟨_, rfl⟩
  rw [← hw2, ← ha]
  rw [← ha] at hk2
  have HK2 := Lib.hid hk2
  have k0 := hk2.cell 0
  have k1 := hk2.cell 1
  have k2 := hk2.cell 2
  have k3 := hk2.cell 3
  simp only [List.getElem?_toArray, List.getElem?_cons_zero, List.getElem?_cons_succ] at k0 k1 k2 k3
  have HA1 := Lib.hid (H2.out.ask5 HZS.out 1 3 (by decide) ask1)
  have HA2 := Lib.hid (fun W (h : TL w W z z L1) => h.ask5 HZS.out 2 2 (by decide) ask2)
  have HA3 := Lib.hid (fun W (h : TL w W z z L2) => h.ask5 HZS.out 3 1 (by decide) ask3)
  have HA4 := Lib.hid (fun W (h : TL w W z z L3) => h.ask5 HZS.out 2 2 (by decide) ask4)
  rw [show ((1 : Nat) : Int) = 1 from rfl] at HA1
  simp only [show ((2 : Nat) : Int) = 2 from rfl] at HA2 HA4
  simp only [show ((3 : Nat) : Int) = 3 from rfl] at HA3
  clear hw2 ha hb2 hk2
  go_upto_region 6 with (go_at_call 20; with_reducible refine HA1.out.mono ?_; rintro e w3 ⟨rfl, h3, hk⟩; have H3 := Lib.hid h3; have HK3 := Lib.hid (hk _ _ _ HK2.out (by decide) (by decide)); have k0 := HK3.out.cell 0; have k1 := HK3.out.cell 1; have k2 := HK3.out.cell 2; have k3 := HK3.out.cell 3; simp only [List.getElem?_toArray, List.getElem?_cons_zero, List.getElem?_cons_succ] at k0 k1 k2 k3; clear h3 hk)
  go_upto_region 7 with (go_at_call 20; with_reducible refine (HA2.out _ H3.out).mono ?_; rintro e w4 ⟨rfl, h4, hk⟩; have H4 := Lib.hid h4; have HK4 := Lib.hid (hk _ _ _ HK3.out (by decide) (by decide)); have k0 := HK4.out.cell 0; have k1 := HK4.out.cell 1; have k2 := HK4.out.cell 2; have k3 := HK4.out.cell 3; simp only [List.getElem?_toArray, List.getElem?_cons_zero, List.getElem?_cons_succ] at k0 k1 k2 k3; clear h4 hk)
  go_upto_region 8 with (go_at_call 20; with_reducible refine (HA3.out _ H4.out).mono ?_; rintro e w5 ⟨rfl, h5, hk⟩; have H5 := Lib.hid h5; have HK5 := Lib.hid (hk _ _ _ HK4.out (by decide) (by decide)); have k0 := HK5.out.cell 0; have k1 := HK5.out.cell 1; have k2 := HK5.out.cell 2; have k3 := HK5.out.cell 3; simp only [List.getElem?_toArray, List.getElem?_cons_zero, List.getElem?_cons_succ] at k0 k1 k2 k3; clear h5 hk)
  go_upto_region 9 with (go_at_call 20; with_reducible refine (HA4.out _ H5.out).mono ?_; rintro e w6 ⟨rfl, h6, hk⟩; have H6 := Lib.hid h6; have HK6 := Lib.hid (hk _ _ _ HK5.out (by decide) (by decide)); clear h6 hk)
  go_upto_region 10 with (go_at_call 13; with_reducible refine (H6.out.waits HZS.out).mono ?_; rintro e w7 ⟨v, pl, rfl, hr, ho, h7, hb7⟩; have H7 := Lib.hid h7; have HK7 := Lib.hid (HK6.out.below hb7 HK6.out.lt); have k0 := HK7.out.cell 0; have k1 := HK7.out.cell 1; have k2 := HK7.out.cell 2; have k3 := HK7.out.cell 3; simp only [List.getElem?_toArray, List.getElem?_cons_zero, List.getElem?_cons_succ] at k0 k1 k2 k3; have HO := Lib.hid ho; have HR := Lib.hid hr; clear h7 hb7 ho hr)
  have hpl := pl3 HR.out
  have ho := HO.out
  rw [hpl, waits3] at ho
  obtain ⟨b, c, rfl, _, hat⟩ := ho.at_ pf_len (i := 0) (x := (2, 1)) rfl
  have q0 := hat 0 _ rfl
  have q1 := hat 1 _ rfl
  simp only [Nat.zero_mul, Nat.zero_add, show ((2 : Nat) : Int) = 2 from rfl, show ((1 : Nat) : Int) = 1 from rfl] at q0 q1
  clear hpl ho hat
  have heq := fun w => eq21 w
  rw [show ([(2, 1)] : List (Nat × Nat)).length = 1 from rfl]
  have HHA := Lib.hid (H7.out.has HZS.out 1 x5 1 okx5.2.1 okx5.2.2)
  rw [has1, show ((1 : Nat) : Int) = 1 from rfl] at HHA
  unfold x5 Th.agg at HHA
  dsimp only at HHA
  rw [show ((5 : Nat) : Int) = 5 from rfl] at HHA
  go_wp2_with (first
    | (go_at_call 21; with_reducible refine HHA.out.mono ?_; rintro e w8 ⟨rfl, h8, _⟩; have H8 := Lib.hid h8; clear h8)
    | (go_at_call 12; with_reducible refine (H8.out.allN HZS.out (n := 3) rfl).mono ?_; rintro e w9 ⟨A9, c9, rfl, h9⟩; have H9 := Lib.hid h9; clear h9)
    | (go_at_call 17; with_reducible refine (H9.out.victim HZS.out 4 _ rings3).mono ?_; rintro e w10 ⟨rfl, h10, _⟩; have H10 := Lib.hid h10; clear h10))
  go_ret
  exact ⟨by simp, by have := H10.out.bel; rwa [HZ.out] at this⟩
end Go.Proofs.YtlblgfpafdfilaaDoor
