/-
  TWO DISKS SIDE BY SIDE; THE WALK OF twice.
-/
import Derived.Test.YtjblcligkgjbjaaWalkK
import Derived.Test.YtjblcligkgjbjaaWalkL
namespace Go.Proofs.Ytjblcligkgjbjaa
open Go.RowKit Go.Sort Go.Maps

/-- two disks, apart, above B -/
structure TwoS (w : World) (B : Nat) (S1 S2 : Nat → Prop) (g1 g2 : Nat) (d1 d2 : DS) : Prop where
  a : DAt w S1 g1 d1
  b : DAt w S2 g2 d2
  ap : ∀ x, S1 x → ¬ S2 x
  b1 : ∀ x, S1 x → B ≤ x ∧ x < w.heap.size
  b2 : ∀ x, S2 x → B ≤ x ∧ x < w.heap.size
def Upto (S : Nat → Prop) (w w' : World) : Nat → Prop := fun x => Up S w x ∧ x < w'.heap.size
section
variable {w w' : World} {B : Nat} {S1 S2 : Nat → Prop} {g1 g2 : Nat} {d1 d2 d1' d2' : DS}
set_option maxRecDepth 100000 in
theorem TwoS.swap (h : TwoS w B S1 S2 g1 g2 d1 d2) : TwoS w B S2 S1 g2 g1 d2 d1 := ⟨h.b, h.a, fun x hx hy => h.ap x hy hx, h.b2, h.b1⟩
set_option maxRecDepth 100000 in
theorem TwoS.fr (h : TwoS w B S1 S2 g1 g2 d1 d2) (hf : Fr w w' No) : TwoS w' B S1 S2 g1 g2 d1 d2 :=
  ⟨h.a.keep hf fun _ _ hn => hn, h.b.keep hf fun _ _ hn => hn, h.ap, fun x hx => ⟨(h.b1 x hx).1, Nat.lt_of_lt_of_le (h.b1 x hx).2 hf.size⟩, fun x hx => ⟨(h.b2 x hx).1, Nat.lt_of_lt_of_le (h.b2 x hx).2 hf.size⟩⟩
set_option maxRecDepth 100000 in
theorem TwoS.left (h : TwoS w B S1 S2 g1 g2 d1 d2) (hd : DAt w' S1 g1 d1') (hf : Fr w w' S1) : TwoS w' B S1 S2 g1 g2 d1' d2 :=
  ⟨hd, h.b.keep hf fun x h2 h1 => h.ap x h1 h2, h.ap, fun x hx => ⟨(h.b1 x hx).1, Nat.lt_of_lt_of_le (h.b1 x hx).2 hf.size⟩, fun x hx => ⟨(h.b2 x hx).1, Nat.lt_of_lt_of_le (h.b2 x hx).2 hf.size⟩⟩
set_option maxRecDepth 100000 in
theorem TwoS.leftUp (h : TwoS w B S1 S2 g1 g2 d1 d2) (hB : B ≤ w.heap.size) (hd : DAt w' (Up S1 w) g1 d1') (hf : Fr w w' S1) : TwoS w' B (Upto S1 w w') S2 g1 g2 d1' d2 :=
  ⟨hd.tight, h.b.keep hf fun x h2 h1 => h.ap x h1 h2, fun x hx h2 => hx.1.elim (fun h1 => h.ap x h1 h2) (fun h1 => by have := (h.b2 x h2).2; omega),
    fun x hx => ⟨hx.1.elim (fun h1 => (h.b1 x h1).1) (fun h1 => by omega), hx.2⟩, fun x hx => ⟨(h.b2 x hx).1, Nat.lt_of_lt_of_le (h.b2 x hx).2 hf.size⟩⟩
set_option maxRecDepth 100000 in
theorem TwoS.below1 (h : TwoS w B S1 S2 g1 g2 d1 d2) (hB : B ≤ w.heap.size) (hf : Fr w w' S1) : Below B w w' := hf.below (fun x hx => (h.b1 x hx).1) hB
end
/-- what a step comes to that is right for a disk -/
def stepD (d : DS) (s : St) : DS := if s.k = 0 then d.next.read else if s.k = 1 then d.next.write s.a.toNat s.b else d.next.sync
structure Fine (m : Nat) (s : St) : Prop where
  at_ : s.k = 0 ∨ s.k = 1 → 0 ≤ s.a ∧ s.a < m
  len : s.k = 1 → s.m = 512
attribute [local go_sem high] run_eqs
set_option maxRecDepth 100000 in
theorem twice_any (w : World) (B : Nat) (hB : B ≤ w.heap.size) (S1 S2 : Nat → Prop) (g1 g2 : Nat) (d1 d2 : DS) (h : TwoS w B S1 S2 g1 g2 d1 d2) (s : St) (hs : s.In w B) (hk : d1.kept = d2.kept) (hc : d1.cache = d2.cache)
    (m1 : d1.may = true) (m2 : d2.may = true) (hf : Fine d1.kept.length s) (hlen : d1.cache.length < 900000) :
    Calls Try.prog 28 #[ptr (some g1), ptr (some g2), s.agg] w fun e w' => ∃ S1' S2', e = .returned (.bool true) ∧ TwoS w' B S1' S2' g1 g2 (stepD d1 s) (stepD d2 s) ∧ Below B w w' := by
  obtain ⟨W, hW⟩ : ∃ W, W = w.alloc (.cells #[.int .i64 s.k, .int .i64 s.a, .slice s.A s.m s.c, .int .i64 s.n, .slice s.K s.q s.r] 36) := ⟨_, rfl⟩
  have hFW : Fr w W No := by rw [hW]; exact (Fr.refl _ _).alloc _
  have hsW := hFW.size
  have hT := h.fr hFW
  have hBW : Below B w W := hFW.below (fun _ hb => hb.elim) hB
  have hsW2 := hs.below hBW
  have hxb : Blk W w.heap.size 36 #[.int .i64 s.k, .int .i64 s.a, .slice s.A s.m s.c, .int .i64 s.n, .slice s.K s.q s.r] := by rw [hW]; exact Blk.new w 36 _
  have hxn1 : ¬ S1 w.heap.size := fun hx => by have := (h.b1 _ hx).2; omega
  have hxn2 : ¬ S2 w.heap.size := fun hx => by have := (h.b2 _ hx).2; omega
  have x0 := hxb.cell 0
  have x1 := hxb.cell 1
  have x2 := hxb.cell 2
  simp only [List.getElem?_toArray, List.getElem?_cons_zero, List.getElem?_cons_succ] at x0 x1 x2
  have HX := Lib.hid hxb
  have HT := Lib.hid hT
  have HB := Lib.hid hBW
  have HI := Lib.hid hsW2
  replace hW := hW.symm
  by_cases k0 : s.k = 0
  · obtain ⟨ha0, ha1⟩ := hf.at_ (Or.inl k0)
    obtain ⟨a, ha⟩ : ∃ a : Nat, s.a = (a : Int) := ⟨s.a.toNat, by omega⟩
    have hal : a < d1.kept.length := by omega
    have hseen : d1.seen a = d2.seen a := by unfold DS.seen; rw [hk, hc]
    have HR := Lib.hid (read_some W S1 g1 d1 hT.a a hal m1)
    have e1 : stepD d1 s = d1.next.read := by unfold stepD; rw [if_pos k0]
    have e2 : stepD d2 s = d2.next.read := by unfold stepD; rw [if_pos k0]
    have hal2 : a < d2.kept.length := by rw [← hk]; exact hal
    have hsec := seen_sec hT.b.ok hal2
    rw [e1, e2]
    have hk0 : (s.k == 0) = true := by rw [beq_iff_eq]; exact k0
    have HSE := Lib.hid hseen
    have HSC := Lib.hid hsec
    have HN1 := Lib.hid hxn1
    rw [ha] at x1 hxb
    clear h hs hk hc hf hFW hT hBW hsW2 hxb e1 e2 hseen hsec hxn1 hxn2
    simp only [ptr, Option.map, St.agg] at HR ⊢
    rw [k0] at x0 hW
    rw [ha] at hW
    rw [k0, ha]
    go_enter Try.func28, Try.ntmps28
    go_wp2_with fail
    refine HR.out.mono ?_
    rintro e w1 ⟨k1, rfl, hk1, hb1, hd1, hf1⟩
    have hT1 := HT.out.left hd1 hf1
    have y1 : w1.cell? ⟨w.heap.size, 1, none⟩ = some (.int .i64 (a : Int)) := by
      have := (HX.out.keep hf1 HN1.out).cell 1
      rw [ha] at this
      simpa using this
    have HR2 := Lib.hid (read_some w1 S2 g2 d2 hT1.b a hal2 m2)
    have HB1 := Lib.hid (HB.out.trans (HT.out.below1 (Nat.le_trans hB HB.out.size) hf1))
    have hn1 : ¬ S2 k1 := fun hx => by have := (HT.out.b2 _ hx).2; omega
    have HT1 := Lib.hid hT1
    have HB1k := Lib.hid hb1
    have HN := Lib.hid hn1
    clear hd1 hf1 hT1 HR hb1 hn1
    simp only [ptr, Option.map] at HR2
    go_wp2_with fail
    refine HR2.out.mono ?_
    rintro e w2 ⟨k2, rfl, hk2, hb2, hd2, hf2⟩
    have HT2 := Lib.hid (HT1.out.swap.left hd2 hf2).swap
    have HB2 := Lib.hid (HB1.out.trans (HT1.out.swap.below1 (Nat.le_trans hB HB1.out.size) hf2))
    have hb1' := HB1k.out.keep hf2 HN.out
    rw [HSE.out] at hb1'
    have hcv1 := run_conv _ _ 512 512 _ _ (RB.of_any (S := fun _ => True) hb1' trivial HSC.out.2 HSC.out.1)
    have hcv2 := run_conv _ _ 512 512 _ _ (RB.of_any (S := fun _ => True) hb2 trivial HSC.out.2 HSC.out.1)
    have hse : seq (bs (d2.seen a)) (bs (d2.seen a)) = true := seq_refl _
    clear hd2 hf2 hb1' hb2 HR2
    go_wp2
    go_ret
    exact ⟨S1, S2, rfl, HT2.out, HB2.out⟩
  · by_cases k1 : s.k = 1
    · obtain ⟨ha0, ha1⟩ := hf.at_ (Or.inr k1)
      obtain ⟨a, ha⟩ : ∃ a : Nat, s.a = (a : Int) := ⟨s.a.toNat, by omega⟩
      have hal : a < d1.kept.length := by omega
      have h512 := hf.len k1
      have hrb : RB W (fun x => x < B) s.A 512 s.b := by have := hsW2.b; rwa [h512] at this
      have HR := Lib.hid (write_some W S1 g1 d1 hT.a a hal m1 _ s.A s.c s.b hrb (fun x h1 h2 => by have := (hT.b1 x h2).1; omega) (by omega))
      have e1 : stepD d1 s = d1.next.write a s.b := by unfold stepD; rw [if_neg k0, if_pos k1, ha]; rfl
      have e2 : stepD d2 s = d2.next.write a s.b := by unfold stepD; rw [if_neg k0, if_pos k1, ha]; rfl
      have hal2 : a < d2.kept.length := by rw [← hk]; exact hal
      have hlen2 : d2.cache.length < 1000000 := by rw [← hc]; omega
      rw [e1, e2]
      have hk0 : (s.k == 0) = false := beq_false_of_ne k0
      have hk1 : (s.k == 1) = true := by rw [beq_iff_eq]; exact k1
      have HN1 := Lib.hid hxn1
      have HN2 := Lib.hid hxn2
      have HRB := Lib.hid hrb
      rw [ha] at x1
      rw [h512] at x2
      clear h hs hk hc hf hFW hT hBW hsW2 hxb e1 e2 hxn1 hxn2 hrb hk0 hk1 k0
      simp only [ptr, Option.map, St.agg] at HR ⊢
      rw [k1] at x0 hW
      rw [ha, h512] at hW
      rw [k1, ha, h512]
      go_enter Try.func28, Try.ntmps28
      go_wp2_with fail
      refine HR.out.mono ?_
      rintro e w1 ⟨rfl, hd1, hf1⟩
      have hT1 := HT.out.leftUp (Nat.le_trans hB HB.out.size) hd1 hf1
      have hB1 := HB.out.trans (HT.out.below1 (Nat.le_trans hB HB.out.size) hf1)
      have hxb1 := HX.out.keep hf1 HN1.out
      have y1 := hxb1.cell 1
      have y2 := hxb1.cell 2
      rw [ha, h512] at y1 y2
      simp only [List.getElem?_toArray, List.getElem?_cons_zero, List.getElem?_cons_succ] at y1 y2
      have hrb1 := HRB.out.below (HT.out.below1 (Nat.le_trans hB HB.out.size) hf1) fun _ h => h
      have HR2 := Lib.hid (write_some w1 S2 g2 d2 hT1.b a hal2 m2 _ s.A s.c s.b hrb1 (fun x h1 h2 => by have := (hT1.b2 x h2).1; omega) hlen2)
      have HB1 := Lib.hid hB1
      have HT1 := Lib.hid hT1
      clear hd1 hf1 hT1 HR hxb1 hrb1 hB1
      simp only [ptr, Option.map] at HR2
      go_wp2_with fail
      refine HR2.out.mono ?_
      rintro e w2 ⟨rfl, hd2, hf2⟩
      have HT2 := Lib.hid (HT1.out.swap.leftUp (Nat.le_trans hB HB1.out.size) hd2 hf2).swap
      have HB2 := Lib.hid (HB1.out.trans (HT1.out.swap.below1 (Nat.le_trans hB HB1.out.size) hf2))
      clear hd2 hf2 HR2
      go_wp2
      go_ret
      exact ⟨_, _, rfl, HT2.out, HB2.out⟩
    · have HR := Lib.hid (sync_some W S1 g1 d1 hT.a m1 (by omega))
      have e1 : stepD d1 s = d1.next.sync := by unfold stepD; rw [if_neg k0, if_neg k1]
      have e2 : stepD d2 s = d2.next.sync := by unfold stepD; rw [if_neg k0, if_neg k1]
      have hlen2 : d2.cache.length < 1000000 := by rw [← hc]; omega
      rw [e1, e2]
      have hk0 : (s.k == 0) = false := beq_false_of_ne k0
      have hk1 : (s.k == 1) = false := beq_false_of_ne k1
      clear h hs hk hc hf hFW hT hBW hsW2 hxb e1 e2 hxn1 hxn2
      simp only [ptr, Option.map, St.agg] at HR ⊢
      go_enter Try.func28, Try.ntmps28
      go_wp2_with fail
      refine HR.out.mono ?_
      rintro e w1 ⟨rfl, hd1, hf1⟩
      have hT1 := HT.out.left hd1 hf1
      have HR2 := Lib.hid (sync_some w1 S2 g2 d2 hT1.b m2 hlen2)
      have HB1 := Lib.hid (HB.out.trans (HT.out.below1 (Nat.le_trans hB HB.out.size) hf1))
      have HT1 := Lib.hid hT1
      clear hd1 hf1 hT1 HR
      simp only [ptr, Option.map] at HR2
      go_wp2_with fail
      refine HR2.out.mono ?_
      rintro e w2 ⟨rfl, hd2, hf2⟩
      have HT2 := Lib.hid (HT1.out.swap.left hd2 hf2).swap
      have HB2 := Lib.hid (HB1.out.trans (HT1.out.swap.below1 (Nat.le_trans hB HB1.out.size) hf2))
      clear hd2 hf2 HR2
      go_wp2
      go_ret
      exact ⟨S1, S2, rfl, HT2.out, HB2.out⟩
end Go.Proofs.Ytjblcligkgjbjaa
