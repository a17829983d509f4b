/-
  THE WALKS OF kept AND awake.
-/
import Derived.Test.YtiilhnedflmgoaaWalkS
namespace Go.Proofs.Ytiilhnedflmgoaa
open Go.RowKit Go.Sort
attribute [local go_sem high] run_eqv run_neqv run_eqs run_neqc

theorem lent_below {w w1 w2 : World} {vs : List V} {g c : Nat} (h : Lent w vs g c w1) (hb : Below w1.heap.size w1 w2) : Lent w vs g c w2 := by
  obtain ⟨h1, h2, h3, h4, h5, h6⟩ := h
  exact ⟨h1, h2, h3.below hb, h4, Nat.lt_of_lt_of_le h5 hb.size, below_trans h6 hb⟩
theorem lentC_below {w w1 w2 : World} {vs : List C} {g c : Nat} (h : LentC w vs g c w1) (hb : Below w1.heap.size w1 w2) : LentC w vs g c w2 := by
  obtain ⟨h1, h2, h3, h4, h5, h6⟩ := h
  exact ⟨h1, h2, h3.below hb, h4, Nat.lt_of_lt_of_le h5 hb.size, below_trans h6 hb⟩
set_option maxRecDepth 100000 in
set_option maxHeartbeats 4000000 in
theorem kept_any (gc c1 n : Nat) (A : Option Addr) (c : Nat) (cs : List C) (gr c2 m : Nat) (B : Option Addr) (d : Nat) (vs : List V) (w0 w0' w : World) (hC : LentC w0 cs gc c1 w) (hA : RC w A n cs) (hR : Lent w0' vs gr c2 w) (hB : RV w B m vs) :
    Calls Try.prog 18 #[.slice (some ⟨gc, 0, none⟩) n c1, .slice A n c, .slice (some ⟨gr, 0, none⟩) m c2, .slice B m d] w fun e w' => e = .returned (.bool true) ∧ Below w.heap.size w w' := by
  have hn := hA.1
  have hm := hB.1
  have hl1 := hC.1
  have hx1 := hC.2.1
  have hl2 := hR.1
  have hx2 := hR.2.1
  have ha := hC.rv
  have hb := hR.rv
  obtain ⟨g', o', v, e, hg, hv, _, k0, k1, k2⟩ := hC.2.2.1.at_ (k := cs.length) (by omega)
  injection e with e
  injection e with e1 e2
  subst e1 e2
  have hvm : v = markC := by simpa using hv.symm
  subst hvm
  obtain ⟨g'', o'', v', e, hg', hv', _, r0, r1, r2⟩ := hR.2.2.1.at_ (k := vs.length) (by omega)
  injection e with e
  injection e with e1 e2
  subst e1 e2
  have hvm' : v' = mark := by simpa using hv'.symm
  subst hvm'
  simp only [markC, mark] at k0 k1 k2 r0 r1 r2
  rw [hn] at hl1 ha k0 k1 k2
  rw [hm] at hl2 hb r0 r1 r2
  simp only [Nat.zero_add] at k0 k1 k2 r0 r1 r2
  simp only [maxLen] at hx1 hx2
  have HS := Lib.hid (fun (W : World) (h : Below w.heap.size w W) => same_any (some ⟨gr, 0, none⟩) m c2 vs B m d vs W (hb.below h) (hB.below h))
  simp only [(eqR_iff vs vs).2 rfl] at HS
  have HX := Lib.hid (fun (W : World) (h : Below w.heap.size w W) => ha.below h)
  have HA := Lib.hid (fun (W : World) (h : Below w.heap.size w W) => hA.below h)
  clear hC hA hR hB hv hv' ha hb
  go_enter Try.func18, Try.ntmps18
  go_wp2
  go_loopw [9] (fun i wr => ∃ k : Nat, k ≤ n ∧ i = .int .i64 (k : Int) ∧ Below w.heap.size w wr) (fun i _ => n - (intOf i).toNat)
  case atStart => exact ⟨0, by omega, rfl, Below.refl _ _⟩
  case round =>
    obtain ⟨k, hk, rfl, hbel⟩ := hrel
    have HW := Lib.hid hbel
    clear hbel
    by_cases hlt : k < n
    · obtain ⟨g1, o1, x, e, hg1, hx, _, x0, x1, x2⟩ := (HX.out _ HW.out).at_ hlt
      injection e with e
      injection e with e1 e2
      subst e1 e2
      obtain ⟨g2, o2, y, rfl, hg2, hy, _, y0, y1, y2⟩ := (HA.out _ HW.out).at_ hlt
      rw [hx] at hy
      injection hy with hy
      subst hy
      obtain ⟨xn, xk, xd⟩ := x
      simp only [Nat.zero_add] at x0 x1 x2
      simp only at y0 y1 y2
      have hce : ceq ⟨xn, xk, xd⟩ ⟨xn, xk, xd⟩ = true := ceq_eq.2 rfl
      clear hx
      go_wp2_with fail
      go_quiet (fail)
      go_wp2_with fail
      go_roundw
      case rel => exact ⟨k + 1, by omega, by go_num, below_fields HW.out rfl rfl rfl rfl⟩
      case measure => simp [intOf]; omega
    · obtain rfl : k = n := by omega
      have HC := Lib.hid (HS.out _ HW.out)
      go_wp2_with (go_at_call 21; refine HC.out.mono ?_; rintro e w1 ⟨rfl, hb⟩; have HB := Lib.hid (below_trans HW.out hb); clear hb)
      go_ret
      exact ⟨rfl, HB.out⟩

/-! ### awake -/
def cols3 : List C := [⟨⟨#[97]⟩, 1, false⟩, ⟨⟨#[98]⟩, 2, false⟩, ⟨⟨#[99]⟩, 3, true⟩]
def row3 : List V := [⟨1, 1, ⟨#[]⟩⟩, ⟨2, 0, ⟨#[120]⟩⟩, ⟨3, 1, ⟨#[]⟩⟩]
def row2 : List V := [v0, v0, ⟨3, 0, ⟨#[]⟩⟩]
theorem cols3_may : mayC cols3 = true := by
  rw [mayC_iff]
  refine ⟨by decide, by decide, ?_, ?_⟩
  · intro c hc
    simp only [cols3, List.mem_cons, List.not_mem_nil, or_false] at hc
    rcases hc with rfl | rfl | rfl <;> decide
  · have h1 : seq ⟨#[98]⟩ ⟨#[97]⟩ = false := by rw [Bool.eq_false_iff]; intro e; rw [seq_eq] at e; revert e; decide
    have h2 : seq ⟨#[99]⟩ ⟨#[97]⟩ = false := by rw [Bool.eq_false_iff]; intro e; rw [seq_eq] at e; revert e; decide
    have h3 : seq ⟨#[99]⟩ ⟨#[98]⟩ = false := by rw [Bool.eq_false_iff]; intro e; rw [seq_eq] at e; revert e; decide
    simp [cols3, nodup, fresh, h1, h2, h3]
theorem cols3_ok : ∀ v ∈ cols3, COk v := by
  intro v hv
  simp only [cols3, List.mem_cons, List.not_mem_nil, or_false] at hv
  rcases hv with rfl | rfl | rfl
  · exact ⟨by show 1 ≤ _; omega⟩
  · exact ⟨by show 1 ≤ _; omega⟩
  · exact ⟨by show 1 ≤ _; omega⟩
theorem row3_ok : ∀ v ∈ row3, VOk v := by
  intro v hv
  simp only [row3, List.mem_cons, List.not_mem_nil, or_false] at hv
  rcases hv with rfl | rfl | rfl
  · exact ⟨by simp [N64], Nat.zero_le _⟩
  · exact ⟨by simp [N64], by show 1 ≤ _; omega⟩
  · exact ⟨by simp [N64], Nat.zero_le _⟩
theorem row3_txt : txt row3 = [0, 2, 1, 120, 1] := by
  have h1 : marks row3 = [0] := by decide
  have hs : sb ⟨#[120]⟩ = [120] := by decide
  have hz : Cd.zz 1 = 2 := by decide
  have h2 : ones row3 = [2, 1, 120, 1] := by simp [row3, ones, one, Cd.tx, hs, hz, Cd.vi_small]
  rw [txt, h1, h2]
  rfl
theorem row3_enc : encE cols3 row3 = 0 ∧ encS cols3 row3 = ⟨#[0, 2, 1, 120, 1]⟩ := by
  have hf : fitsE cols3 row3 = 0 := by
    refine fitsE_ok cols3_may rfl ?_
    have m1 : V.may ⟨1, 1, ⟨#[]⟩⟩ = true := by simp [V.may, may, seq_refl]
    have m2 : V.may ⟨2, 0, ⟨#[120]⟩⟩ = true := by simp [V.may, may]; decide
    have m3 : V.may ⟨3, 1, ⟨#[]⟩⟩ = true := by simp [V.may, may, seq_refl]
    simp [cols3, row3, fits2, fit1, m1, m2, m3]
  obtain ⟨a, b⟩ := enc_good hf (by rw [row3_txt]; decide)
  refine ⟨a, ?_⟩
  rw [b, row3_txt]
  rfl
theorem dec2 : decO cols3 ⟨#[3, 0]⟩ = some row2 := by
  have hf : fitsE cols3 row2 = 0 := by
    refine fitsE_ok cols3_may rfl ?_
    have m1 : V.may v0 = true := by simp [V.may, may, seq_refl, v0]
    have m3 : V.may ⟨3, 0, ⟨#[]⟩⟩ = true := by simp [V.may, may, seq_refl]
    simp [cols3, row2, fits2, fit1, m1, m3]
    simp [v0]
  have ht : txt row2 = [3, 0] := by decide
  obtain ⟨a, b⟩ := enc_good hf (by rw [ht]; decide)
  have h := dec_enc a (by
    intro v hv
    simp only [row2, List.mem_cons, List.not_mem_nil, or_false] at hv
    rcases hv with rfl | rfl | rfl <;> simp [N64, v0])
  rw [b, ht] at h
  exact h
set_option maxRecDepth 100000 in
set_option maxHeartbeats 4000000 in
theorem awake_any (w : World) : Calls Try.prog 12 #[] w fun e w' => e = .returned (.bool true) ∧ Below w.heap.size w w' := by
  have hc := RC.of_blk (Blk.new w 45 (ccs cols3).toArray) cols3_ok (by decide)
  have hr : RV ((w.alloc (.cells (ccs cols3).toArray 45)).alloc (.cells (vcs row3).toArray 40)) (some ⟨w.heap.size + 1, 0, none⟩) 3 row3 := by
    have h := RV.of_blk (Blk.new (w.alloc (.cells (ccs cols3).toArray 45)) 40 (vcs row3).toArray) row3_ok (by decide)
    rw [World.size_alloc] at h
    exact h
  have HC := Lib.hid hc
  have HE := Lib.hid (encode_any _ 3 3 cols3 _ 3 3 row3 _ (hc.below ((Below.refl _ _).alloc (Nat.le_refl _) (.cells (vcs row3).toArray 40))) hr (Nat.le_refl _))
  have HB0 := Lib.hid (((Below.refl _ w).alloc (Nat.le_refl _) (.cells (ccs cols3).toArray 45)).alloc (by simp) (.cells (vcs row3).toArray 40))
  have HD := Lib.hid (fun W (h : RC W (some ⟨w.heap.size, 0, none⟩) 3 cols3) => decode_any (some ⟨w.heap.size, 0, none⟩) 3 3 cols3 ⟨#[3, 0]⟩ W h (Nat.le_refl _) (by decide))
  have HDS := Lib.hid (dec_some cols3_may dec2)
  obtain ⟨e1, e2⟩ := row3_enc
  unfold Enc at HE
  unfold Dec at HD
  rw [HDS.out.1, HDS.out.2] at HD
  rw [e1, e2] at HE
  have hv : veq 3 0 ⟨#[]⟩ 3 0 ⟨#[]⟩ = true := veq_eq.2 ⟨rfl, rfl, rfl⟩
  have hs : seq ⟨#[0, 2, 1, 120, 1]⟩ ⟨#[0, 2, 1, 120, 1]⟩ = true := seq_refl _
  clear hc hr e1 e2
  go_enter Try.func12, Try.ntmps12
  go_wp2_with fail
  refine HE.out.mono ?_
  rintro e w1 ⟨rfl, hb1⟩
  have HB1 := Lib.hid (HB0.out.trans (hb1.mono (by simp; omega)))
  have HC1 := Lib.hid (HC.out.below (((Below.refl _ (w.alloc (.cells (ccs cols3).toArray 45))).alloc (Nat.le_refl _) (.cells (vcs row3).toArray 40)).trans (hb1.mono (by simp))))
  clear hb1 HE HB0 HC
  go_wp2_with fail
  refine (HD.out _ HC1.out).mono ?_
  rintro e w2 ⟨v2, rfl, ho2⟩
  have HB2 := Lib.hid (below_trans HB1.out ho2.2)
  obtain ⟨A2, c2, rfl, _, _, _, hrv⟩ := ho2.1.reads (by decide)
  obtain ⟨g, o, x, rfl, hg, hx, _, b0, b1, b2⟩ := hrv.at_ (k := 2) (by decide)
  have hxe : x = ⟨3, 0, ⟨#[]⟩⟩ := by simpa [row2] using hx.symm
  subst hxe
  have hl2 : row2.length = 3 := rfl
  rw [hl2]
  simp only at b0 b1 b2
  clear ho2 hrv hx HD HC1 HB1
  go_wp2
  go_ret
  exact ⟨rfl, HB2.out⟩
end Go.Proofs.Ytiilhnedflmgoaa
