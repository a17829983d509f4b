/-
  THE WALK OF free FOR A HEAP.
-/
import Derived.Test.YtajmpoanmdgmpaaSD
import Derived.Test.YtajmpoanmdgmpaaSB
import Derived.BigQuiet
import Derived.BigRegion
import Derived.RegionTactic
import Derived.Lib.QuietBelow
namespace Go.Proofs.Ytajmpoanmdgmpaa
open Go.RowKit

def trimN (es : List CE) : Nat → Nat
  | 0 => 0
  | k + 1 => if (es.getD k cz).u then k + 1 else trimN es k
def trim (es : List CE) : List CE := es.take (trimN es es.length)
theorem trimN_succ (es : List CE) (k : Nat) : trimN es (k + 1) = if (es.getD k cz).u then k + 1 else trimN es k := rfl
theorem trimN_le (es : List CE) : ∀ k, trimN es k ≤ k
  | 0 => Nat.le_refl _
  | k + 1 => by
    unfold trimN
    split
    · exact Nat.le_refl _
    · exact Nat.le_trans (trimN_le es k) (by omega)
def lenAt (w : World) (g : Nat) : Nat := match w.cell? ⟨g, 3, none⟩ with
  | some (.slice _ n _) => n
  | _ => 0
theorem lenAt_of {w : World} {g n c : Nat} {A : Option Addr} (h : w.cell? ⟨g, 3, none⟩ = some (.slice A n c)) : lenAt w g = n := by unfold lenAt; rw [h]
set_option maxRecDepth 100000 in
theorem free_no (w : World) (S : Nat → Prop) (g : Nat) (at_ : Int) : Calls Try.prog 87 #[.pointer (some ⟨g, 0, none⟩), .int .i64 at_, .bool false] w (DidNo w S g 6) := by
  go_enter Try.func87, Try.ntmps87
  go_wp2_with fail
  go_ret
  exact ⟨rfl, Fr.refl _ _⟩
/-- what goes on while the end is trimmed -/
structure FR (w wr : World) (S T : Nat → Prop) (g g' : Nat) (pk : Int) (ps px c n : Nat) (l0 : List CV) (m : Nat) : Prop where
  b : Blk wr g 26 (pcs ⟨pk, ps, px, some ⟨g', 0, none⟩, m, c, l0.take m⟩)
  o : OwC wr S T (.slice (some ⟨g', 0, none⟩) n c) n l0
  t : trimN (l0.map CV.e) m = trimN (l0.map CV.e) n
  f : Fr w wr (fun b => b = g ∨ S b)
  wb : (∀ x ∈ l0, WB w T x.A x.m) → ∀ x ∈ l0, WB wr T x.A x.m
theorem free_done {w wr W3 : World} {S T : Nat → Prop} {g g' ps px c n m s : Nat} {l l0 : List CV} (h : FR w wr S T g g' 1 ps px c n l0 m) (hm : m ≤ n) (hstop : trimN (l0.map CV.e) m = m) (h3 : Fr wr W3 No)
    (hl0 : l0.length = n ∧ l0.map CV.e = (l.map CV.e).set s cz ∧ ∀ x ∈ l0, x ∈ l ∨ x = ⟨false, 0, none, 0, 0, []⟩) (hs : ps < 18446744073709551616) (hx : px < 4294967296) (hn : n ≤ 300) :
    DidOk w S T g ⟨1, ps, px, some ⟨g', 0, none⟩, n, c, l⟩ (trim ((⟨1, ps, px, some ⟨g', 0, none⟩, n, c, l⟩ : PV).es.set s cz)) (.returned (.int .i64 0)) W3 := by
  refine ⟨⟨1, ps, px, some ⟨g', 0, none⟩, m, c, l0.take m⟩, S, T, rfl, h.b.keep h3 fun h => h, ⟨(h.o.short hm).fr h3, by show m ≤ _; omega, by show (_ : Int) ≤ 1; omega, by show (1 : Int) ≤ _; omega, hs, hx⟩, ?_, ⟨rfl, rfl, rfl⟩, fun b hb => Or.inl hb, fun b hb => Or.inl hb, h.f.trans h3 fun b hb => hb.elim, fun hw y hy => ?_⟩
  · show (l0.take m).map CV.e = trim ((l.map CV.e).set s cz)
    rw [← hl0.2.1]
    unfold trim
    rw [List.length_map, hl0.1, ← h.t, hstop, List.map_take]
  · refine (h.wb (fun x hx => ?_) y (List.mem_of_mem_take hy)).keep h3 fun _ _ hn => hn
    rcases hl0.2.2 x hx with hx | rfl
    · exact hw x hx
    · exact ⟨[], RB.nil_, fun _ _ j hj => absurd hj (Nat.not_lt_zero j)⟩
set_option maxHeartbeats 2000000 in
set_option maxRecDepth 100000 in
theorem free_heap (w : World) (S T : Nat → Prop) (g : Nat) (p : PV) (hb : Blk w g 26 (pcs p)) (hg : ¬ S g ∧ ¬ T g) (ho : PO w S T p) (hk : p.k = 1) (hn : p.n ≤ 300) (s : Nat) (hs : s < p.n) :
    Calls Try.prog 87 #[.pointer (some ⟨g, 0, none⟩), .int .i64 (s : Int), .bool true] w (DidOk w S T g p (trim (p.es.set s cz))) := by
  obtain ⟨y0, y1, y2, y3⟩ := pcs_cells hb
  obtain ⟨g', o, xx, hA, hg', hSg, hxx, hxi, b0, b1, b2⟩ := ho.In.r.at_ hs
  obtain ⟨g'', hA2, hS2, hT2, _, hfz⟩ := ho.rowA (by omega)
  rw [hA] at hA2
  injection hA2 with hA2
  injection hA2 with e1 e2
  subst e1 e2
  rw [Nat.zero_add] at b0 b1 b2
  have hws : IntKind.i64.wrap (s : Int) = (s : Int) := IntWalk.i64_in _ (by omega)
  have hf0 := hfz (s * 3)
  have hf1 := hfz (s * 3 + 1)
  have hf2 := hfz (s * 3 + 2)
  obtain ⟨pk, ps, px, A, n, c, l⟩ := p
  simp only at hA hk hn hs y0 y1 y2 y3
  subst hA hk
  have hll : l.length = n := ho.o.len
  have hne : g ≠ g' := fun e => hg.1 (e ▸ hS2)
  have hof : OwC w S T (.slice (some ⟨g', 0, none⟩) n c) n l := ho.o
  obtain ⟨W, hW⟩ : ∃ W, ((w.setCell ⟨g', s * 3, none⟩ (.bool false)).setCell ⟨g', s * 3 + 1, none⟩ (.int .u32 0)).setCell ⟨g', s * 3 + 2, none⟩ (.slice none 0 0) = W := ⟨_, rfl⟩
  obtain ⟨y, hy⟩ : ∃ y : CV, y = ⟨false, 0, none, 0, 0, []⟩ := ⟨_, rfl⟩
  have hyi : y.In w T := by rw [hy]; exact ⟨RB.nil_, by simp only; omega, Nat.le_refl _, by simp only; omega, fun _ => rfl⟩
  have hput := hof.put3 hs y hyi (fun _ _ h => h) hT2
  have hW2 : ((w.setCell ⟨g', s * 3, none⟩ (.bool y.u)).setCell ⟨g', s * 3 + 1, none⟩ (.int .u32 (y.k : Int))).setCell ⟨g', s * 3 + 2, none⟩ (.slice y.A y.m y.c) = W := by rw [hy]; exact hW
  rw [hW2] at hput
  have hfW : Fr w W (fun b => b = g') := by rw [← hW]; exact fr_set (fr_set (fr_set (Fr.refl _ _) _ _) _ _) _ _
  obtain ⟨l0, hl0⟩ : ∃ l0, l0 = l.set s y := ⟨_, rfl⟩
  rw [← hl0] at hput
  have hl0n : l0.length = n := by rw [hl0, List.length_set]; exact hll
  have hFR : FR w W S T g g' 1 ps px c n l0 n := ⟨by rw [List.take_of_length_le (by omega)]; exact hb.keep hfW hne, hput, rfl, hfW.mono fun b _ e => Or.inr (e ▸ hS2), fun h x hx => (h x hx).keep hfW fun b hb e => hT2 (e ▸ hb)⟩
  have HFR := Lib.hid hFR
  have HG := Lib.hid hg
  have HNE := Lib.hid hne
  have HSG := Lib.hid (show S g' ∧ ¬ T g' from ⟨hS2, hT2⟩)
  have HL0 := Lib.hid (show l0.length = n ∧ l0.map CV.e = (l.map CV.e).set s cz ∧ ∀ x ∈ l0, x ∈ l ∨ x = y by
    refine ⟨hl0n, ?_, fun x hx => ?_⟩
    · rw [hl0, es_set, hy]; rfl
    · rw [hl0] at hx
      rcases List.mem_or_eq_of_mem_set hx with hx | hx
      · exact Or.inl hx
      · exact Or.inr hx)
  have HY := Lib.hid hy
  have HO := Lib.hid (show 1 ≤ 1 ∧ ps < 18446744073709551616 ∧ px < 4294967296 from ⟨Nat.le_refl _, ho.s, ho.x⟩)
  obtain ⟨v0, v1, v2, v3⟩ := pcs_cells (hb.keep hfW hne)
  clear hb hg ho hof hput hfW hFR hxx hxi hne hSg hS2 hT2 hyi hl0 hll hl0n hfz hy hW2
  go_enter Try.func87, Try.ntmps87
  go_wp2_with fail
  go_loopw [] (fun wr => ∃ m : Nat, m ≤ n ∧ FR w wr S T g g' 1 ps px c n l0 m) (fun wr => lenAt wr g)
  case atStart => exact ⟨n, Nat.le_refl _, HFR.out⟩
  case round =>
    obtain ⟨m, hm, hfr⟩ := hrel
    have HF := Lib.hid hfr
    obtain ⟨u0, u1, u2, u3⟩ := pcs_cells hfr.b
    simp only at u0 u1 u2 u3
    clear hfr
    have z3 := fun d os => cell_regrown u3 d os
    by_cases h0 : m = 0
    · have d1 : decide ((m : Int) > 0) = false := decide_eq_false (by omega)
      have d2 : decide (0 < m) = false := decide_eq_false (by omega)
      go_wp2_with fail
      refine wp_region_quiet_below (by kernel_rfl) (by kernel_rfl) ?_
      repeat (go_big_quiet_step (fail))
      refine wpQuiet_nil ?_
      rintro W3 ⟨pp, hpp⟩
      have HB3 := Lib.hid (show Fr _ W3 No from Fr.of_below (show Below _ _ W3 by rw [hpp]; exact below_regrown _ _ _) No)
      clear hpp z3
      go_wp2_with fail
      go_ret
      have HL := HL0.out
      rw [HY.out] at HL
      exact free_done HF.out hm (by rw [h0]; rfl) HB3.out HL HO.out.2.1 HO.out.2.2 hn
    · obtain ⟨k, hk⟩ : ∃ k, m = k + 1 := ⟨m - 1, by omega⟩
      have d1 : decide ((m : Int) > 0) = true := decide_eq_true (by omega)
      have d2 : decide (0 < m) = true := decide_eq_true (by omega)
      have hw1 : IntKind.i64.wrap ((m : Int) - 1) = (k : Int) := by rw [IntWalk.i64_in _ (by omega)]; omega
      have hwk : IntKind.i64.wrap (k : Int) = (k : Int) := IntWalk.i64_in _ (by omega)
      have hkm : k < m := by omega
      have hkI : (k : Int) < (m : Int) := by omega
      have HK := Lib.hid hk
      have hkl : k < l0.length := by have := HL0.out.1; omega
      obtain ⟨gq, cq, eq, hrow, _, _⟩ := HF.out.o.row (by omega)
      injection eq with eq1 _ eq3
      injection eq1 with eq1
      injection eq1 with eq1
      subst eq1 eq3
      obtain ⟨ca, ca1, ca2⟩ := ccs_at l0 k l0[k] (List.getElem?_eq_getElem hkl)
      have q0 := hrow.cell (j := k * 3) (by omega)
      rw [ca] at q0
      obtain ⟨u, hu⟩ : ∃ u, u = l0[k].u := ⟨_, rfl⟩
      rw [← hu] at q0
      have HU := Lib.hid (show ((l0.map CV.e).getD k cz).u = u by rw [getD_lt (by simpa using hkl), hu, List.getElem_map]; rfl)
      have z4 := fun d os => cell_regrown q0 d os
      have hkc : k ≤ c := by obtain ⟨_, _, h, _⟩ := hrow; omega
      clear hk hrow ca ca1 ca2 hu hkl
      cases u with
      | true =>
        go_wp2_with fail
        refine wp_region_quiet_below (by kernel_rfl) (by kernel_rfl) ?_
        repeat (go_big_quiet_step (fail))
        refine wpQuiet_nil ?_
        rintro W3 ⟨pp, hpp⟩
        have HB3 := Lib.hid (show Fr _ W3 No from Fr.of_below (show Below _ _ W3 by rw [hpp]; exact below_regrown _ _ _) No)
        clear hpp z3 z4
        go_wp2_with fail
        go_ret
        have HL := HL0.out
        rw [HY.out] at HL
        exact free_done HF.out hm (by rw [HK.out, trimN_succ, HU.out, if_pos rfl]) HB3.out HL HO.out.2.1 HO.out.2.2 hn
      | false =>
        go_wp2_with fail
        refine wp_region_quiet_below (by kernel_rfl) (by kernel_rfl) ?_
        repeat (go_big_quiet_step (fail))
        refine wpQuiet_nil ?_
        rintro W3 ⟨pp, hpp⟩
        have hb3 := Fr.of_below (show Below _ _ W3 by rw [hpp]; exact below_regrown _ _ _) No
        have HB3 := Lib.hid hb3
        have hbk := HF.out.b.keep hb3 fun h => h
        obtain ⟨u0, u1, u2, u3⟩ := pcs_cells hbk
        have f3 := hbk.frozen 3
        simp only at u0 u1 u2 u3
        have u3d : World.cell? (World.drew W3) ⟨g, 3, none⟩ = _ := u3
        have f3d : World.frozen? (World.drew W3) ⟨g, 3, none⟩ = false := f3
        obtain ⟨W4, hW4⟩ : ∃ W4, (W3.setCell ⟨g, 3, none⟩ (.slice (some ⟨g', 0, none⟩) k c)).drew = W4 := ⟨_, rfl⟩
        have hf4 : Fr W3 W4 (fun b => b = g) := by rw [← hW4]; exact (fr_set (Fr.refl _ _) _ _).drew
        have hb4 : Blk W4 g 26 #[.int .i64 1, .int .u64 (ps : Int), .int .u32 (px : Int), .slice (some ⟨g', 0, none⟩) k c] := by rw [← hW4]; exact (hbk.set_ 3 _).drew
        have HF4 := Lib.hid hf4
        have HB4 := Lib.hid hb4
        clear hpp z3 z4 hb3 hbk hf4 hb4 q0
        go_wp2_with fail
        go_region
        all_goals
          go_wp2
          go_roundw
          case rel =>
            first | rw [hW4] | skip
            refine ⟨k, by have := HK.out; omega, HB4.out, ?_, ?_, ?_, ?_⟩
            · exact (HF.out.o.fr HB3.out).keep HF4.out (fun b hb e => HG.out.1 (e ▸ hb)) fun b hb e => HG.out.2 (e ▸ hb)
            · have h1 := HF.out.t
              rw [HK.out, trimN_succ, HU.out, if_neg (by simp)] at h1
              exact h1
            · exact (HF.out.f.trans HB3.out fun _ hb => hb.elim).trans HF4.out fun b hb => Or.inl (Or.inl hb)
            · exact fun hw x hx => ((HF.out.wb hw x hx).keep HB3.out fun _ _ hn => hn).keep HF4.out fun b hb e => HG.out.2 (e ▸ hb)
          case measure =>
            first | rw [hW4] | skip
            rw [lenAt_of (n := k) (c := c) (A := some ⟨g', 0, none⟩) ((HB4.out.cell 3).trans (by simp)), lenAt_of (n := m) (c := c) (A := some ⟨g', 0, none⟩) ((HF.out.b.cell 3).trans (by simp [pcs]))]
            have := HK.out
            omega
end Go.Proofs.Ytajmpoanmdgmpaa
