/-
  A PAGE's MEMORY IS WRITTEN OVER: THE WALK OF spoil.
-/
import Derived.Test.YtajmpoanmdgmpaaPI
import Derived.Test.YtajmpoanmdgmpaaPW
import Derived.Test.YtajmpoanmdgmpaaPR
import Derived.BigRegion
import Derived.RegionTactic
namespace Go.Proofs.Ytajmpoanmdgmpaa
open Go.RowKit

section
variable {w w' : World} {S T : Nat → Prop} {A : Option Addr} {n : Nat}
set_option maxRecDepth 100000 in
/-- a byte is set somewhere -/
theorem WB.any_set (h : WB w S A n) (p : Addr) (x : Nat) (hp : w.cell? p = some (.int .u8 (x : Nat))) (y : Nat) (hy : y < 256) : WB (w.setCell p (.int .u8 (y : Nat))) S A n := by
  obtain ⟨l, hr, hf⟩ := h
  rcases Nat.eq_zero_or_pos n with h0 | h0
  · subst h0
    have : l = [] := List.eq_nil_of_length_eq_zero hr.1
    subst this
    exact ⟨[], RB.nil_, fun _ _ j hj => by omega⟩
  · obtain ⟨h1, h2, h3⟩ := hr
    obtain ⟨ad, rfl, hb, hS, hcs⟩ := h3 h0
    refine ⟨(List.range n).map fun j => if ad.add j = p then y else l.getD j 0, ⟨by simp, ?_, fun _ => ⟨ad, rfl, by simpa using hb, hS, fun j hj => ?_⟩⟩, fun ad2 e2 j hj => ?_⟩
    · intro z hz
      simp only [List.mem_map, List.mem_range] at hz
      obtain ⟨j, hj, rfl⟩ := hz
      split
      · exact hy
      · have hjl : j < l.length := by omega
        simp only [List.getD, List.getElem?_eq_getElem hjl, Option.getD_some]
        exact h2 _ (List.getElem_mem hjl)
    · have e3 : ((List.range n).map fun j => if ad.add j = p then y else l.getD j 0).getD j 0 = if ad.add j = p then y else l.getD j 0 := by simp [List.getD, hj]
      rw [e3]
      by_cases hjp : ad.add j = p
      · rw [if_pos hjp, hjp, World.cell?_setCell_same _ _ _ hp]
      · rw [if_neg hjp, World.cell?_setCell_other _ _ _ _ (fun e => hjp e.symm), hcs j hj]
    · rw [World.frozen?_setCell]
      exact hf ad2 e2 j hj
end
/-- what goes on while a page is written over -/
structure SPl (w0 wr : World) (l : List CV) (g : Nat) (T : Nat → Prop) : Prop where
  c : ∀ (i : Nat) (x : CV), l[i]? = some x → ∃ (u : Bool) (k : Nat), wr.cell? ⟨g, i * 3, none⟩ = some (.bool u) ∧ wr.cell? ⟨g, i * 3 + 1, none⟩ = some (.int .u32 (k : Int)) ∧ wr.cell? ⟨g, i * 3 + 2, none⟩ = some (.slice x.A x.m x.c)
  z : ∀ j, wr.frozen? ⟨g, j, none⟩ = false
  b : ∀ x ∈ l, WB wr T x.A x.m
  f : Fr w0 wr (fun b => b = g ∨ T b)
theorem frozen_block {w w' : World} {g j : Nat} (h : w'.heap[g]? = w.heap[g]?) : w'.frozen? ⟨g, j, none⟩ = w.frozen? ⟨g, j, none⟩ := by simp only [World.frozen?, h]
/-- a byte of T is set -/
theorem SPl.byte {w0 wr : World} {l : List CV} {g : Nat} {T : Nat → Prop} (h : SPl w0 wr l g T) (hT : ¬ T g) (p : Addr) (x y : Nat) (hp : wr.cell? p = some (.int .u8 (x : Nat))) (hpT : T p.block) (hy : y < 256) : SPl w0 (wr.setCell p (.int .u8 (y : Nat))) l g T := by
  have hne : g ≠ p.block := fun e => hT (by rw [e]; exact hpT)
  have hb := Below.heap_setCell wr p (.int .u8 (y : Nat)) g hne
  refine ⟨fun i x hi => ?_, fun j => ?_, fun x hx => (h.b x hx).any_set p _ hp y hy, h.f.setCell (Or.inl (Or.inr hpT)) _⟩
  · obtain ⟨u, k, a, b, c⟩ := h.c i x hi
    exact ⟨u, k, (World.cell?_of_block hb).trans a, (World.cell?_of_block hb).trans b, (World.cell?_of_block hb).trans c⟩
  · rw [frozen_block hb]; exact h.z j
theorem SPl.drew {w0 wr : World} {l : List CV} {g : Nat} {T : Nat → Prop} (h : SPl w0 wr l g T) : SPl w0 wr.drew l g T :=
  ⟨h.c, h.z, fun x hx => (h.b x hx).keep (T := No) (Fr.refl _ No).drew fun _ _ hn => hn, h.f.drew⟩
/-- a cell's Killer is set -/
theorem SPl.killer {w0 wr : World} {l : List CV} {g : Nat} {T : Nat → Prop} (h : SPl w0 wr l g T) (hT : ¬ T g) (i : Nat) (hi : i < l.length) (k : Nat) : SPl w0 (wr.setCell ⟨g, i * 3 + 1, none⟩ (.int .u32 (k : Int))) l g T := by
  have hf := fr_set (Fr.refl wr fun b => b = g) (i * 3 + 1) (.int .u32 (k : Int))
  obtain ⟨u0, k0, a0, b0, c0⟩ := h.c i l[i] (List.getElem?_eq_getElem hi)
  refine ⟨fun j x hj => ?_, fun j => ?_, fun x hx => (h.b x hx).keep hf fun b hb e => hT (e ▸ hb), h.f.setCell (p := ⟨g, i * 3 + 1, none⟩) (Or.inl (Or.inl rfl)) _⟩
  · obtain ⟨u, k1, a, b, c⟩ := h.c j x hj
    have o : ∀ q, q ≠ i * 3 + 1 → (wr.setCell ⟨g, i * 3 + 1, none⟩ (.int .u32 (k : Int))).cell? ⟨g, q, none⟩ = wr.cell? ⟨g, q, none⟩ := fun q hq => World.cell?_setCell_other _ _ _ _ (fun e => by injection e with _ e; omega)
    by_cases hij : j = i
    · subst hij
      exact ⟨u, k, (o _ (by omega)).trans a, World.cell?_setCell_same _ _ _ b, (o _ (by omega)).trans c⟩
    · exact ⟨u, k1, (o _ (by omega)).trans a, (o _ (by omega)).trans b, (o _ (by omega)).trans c⟩
  · rw [World.frozen?_setCell]; exact h.z j
theorem SPl.killer99 {w0 wr : World} {l : List CV} {g : Nat} {T : Nat → Prop} (h : SPl w0 wr l g T) (hT : ¬ T g) (i : Nat) (hi : i < l.length) : ∃ X1, wr.setCell ⟨g, i * 3 + 1, none⟩ (.int .u32 99) = X1 ∧ SPl w0 X1 l g T := ⟨_, rfl, h.killer hT i hi 99⟩
/-- a cell's Used is set -/
theorem SPl.used {w0 wr : World} {l : List CV} {g : Nat} {T : Nat → Prop} (h : SPl w0 wr l g T) (hT : ¬ T g) (i : Nat) (hi : i < l.length) (v : Bool) : SPl w0 (wr.setCell ⟨g, i * 3, none⟩ (.bool v)) l g T := by
  have hf := fr_set (Fr.refl wr fun b => b = g) (i * 3) (.bool v)
  refine ⟨fun j x hj => ?_, fun j => ?_, fun x hx => (h.b x hx).keep hf fun b hb e => hT (e ▸ hb), h.f.setCell (p := ⟨g, i * 3, none⟩) (Or.inl (Or.inl rfl)) _⟩
  · obtain ⟨u, k1, a, b, c⟩ := h.c j x hj
    have o : ∀ q, q ≠ i * 3 → (wr.setCell ⟨g, i * 3, none⟩ (.bool v)).cell? ⟨g, q, none⟩ = wr.cell? ⟨g, q, none⟩ := fun q hq => World.cell?_setCell_other _ _ _ _ (fun e => by injection e with _ e; omega)
    by_cases hij : j = i
    · subst hij
      exact ⟨v, k1, World.cell?_setCell_same _ _ _ a, (o _ (by omega)).trans b, (o _ (by omega)).trans c⟩
    · exact ⟨u, k1, (o _ (by omega)).trans a, (o _ (by omega)).trans b, (o _ (by omega)).trans c⟩
  · rw [World.frozen?_setCell]; exact h.z j

set_option maxHeartbeats 4000000 in
set_option maxRecDepth 100000 in
theorem spoil_some (pk : Int) (ps px n c g : Nat) (l : List CV) (T : Nat → Prop) (w : World) (hl : l.length = n) (hn : n ≤ 1000) (hml : ∀ x ∈ l, x.m ≤ 140737488351232) (hg : g < w.heap.size) (hTb : ∀ b, T b → b < w.heap.size) (hT : ¬ T g) (h : SPl w w l g T) :
    Calls Try.prog 28 #[.agg #[.int .i64 pk, .int .u64 (ps : Int), .int .u32 (px : Int), .slice (some ⟨g, 0, none⟩) n c]] w fun e w' => e = .returned (.tuple #[]) ∧ Fr w w' (fun b => b = g ∨ T b) := by
  obtain ⟨W, hW⟩ : ∃ W, w.alloc (.cells #[.int .i64 pk, .int .u64 (ps : Int), .int .u32 (px : Int), .slice (some ⟨g, 0, none⟩) n c] 26) = W := ⟨_, rfl⟩
  have hbx : Blk W w.heap.size 26 #[.int .i64 pk, .int .u64 (ps : Int), .int .u32 (px : Int), .slice (some ⟨g, 0, none⟩) n c] := by rw [← hW]; exact Blk.new w 26 _
  have hfW : Fr w W No := by rw [← hW]; exact (Fr.refl w No).alloc _
  have hgb := hfW.block g hg fun hn => hn
  have hsp : SPl W W l g T := ⟨fun i x hi => by
      obtain ⟨u, k, a, b, c⟩ := h.c i x hi
      exact ⟨u, k, (World.cell?_of_block hgb).trans a, (World.cell?_of_block hgb).trans b, (World.cell?_of_block hgb).trans c⟩,
    fun j => by rw [frozen_block hgb]; exact h.z j, fun x hx => (h.b x hx).keep hfW fun _ _ hn => hn, Fr.refl _ _⟩
  have HSP := Lib.hid hsp
  have HBX := Lib.hid hbx
  have HFW := Lib.hid hfW
  have HT := Lib.hid hT
  have HTB := Lib.hid hTb
  have HG := Lib.hid hg
  have HL := Lib.hid hl
  have HML := Lib.hid hml
  clear h hsp hbx hfW hT hTb hg hl hgb hml
  go_enter Try.func28, Try.ntmps28
  go_wp2_with fail
  go_loopw [2] (fun u wr => ∃ i : Nat, u = .int .i64 (i : Int) ∧ i ≤ n ∧ SPl W wr l g T) (fun u _ => n - (intOf u).toNat)
  case atStart => exact ⟨0, rfl, by omega, HSP.out⟩
  case round =>
    obtain ⟨i, rfl, hi, hs⟩ := hrel
    have hbr := HBX.out.keep hs.f fun h => h.elim (fun h => by have := HG.out; omega) fun h => by have := HTB.out _ h; omega
    have b3 := hbr.cell 3
    simp only [List.getElem?_toArray, List.getElem?_cons_zero, List.getElem?_cons_succ] at b3
    have HS := Lib.hid hs
    clear hs hbr
    by_cases hlt : i < n
    · have hin : ((i : Int) < (n : Int)) := by omega
      have hkc : IntKind.i64.wrap (i : Int) = (i : Int) := IntWalk.i64_in _ (by omega)
      have hWi : IntKind.i64.wrap ((i : Int) + 1) = ((i + 1 : Nat) : Int) := by rw [IntWalk.i64_in _ (by omega)]; omega
      have hil : i < l.length := by have := HL.out; omega
      obtain ⟨x, hx⟩ : ∃ x, x = l[i] := ⟨_, rfl⟩
      have hxi : l[i]? = some x := by rw [hx]; exact List.getElem?_eq_getElem hil
      have HXI := Lib.hid hxi
      have HXM := Lib.hid (show x ∈ l from List.mem_of_getElem? hxi)
      have HIL := Lib.hid hil
      have hxm := HML.out x HXM.out
      obtain ⟨xu, xk, xA, m, xc, xd⟩ := x
      simp only at hxm
      clear hx hxi hil
      go_wp2_with fail
      go_loopw [3] (fun u wy => ∃ k : Nat, u = .int .i64 (k : Int) ∧ k ≤ m ∧ SPl W wy l g T) (fun u _ => m - (intOf u).toNat)
      case atStart => exact ⟨0, rfl, by omega, HS.out⟩
      case round =>
        obtain ⟨k, rfl, hk, hs⟩ := hrel
        have hbr := HBX.out.keep hs.f fun h => h.elim (fun h => by have := HG.out; omega) fun h => by have := HTB.out _ h; omega
        have b3 := hbr.cell 3
        simp only [List.getElem?_toArray, List.getElem?_cons_zero, List.getElem?_cons_succ] at b3
        obtain ⟨u0, k0, c0, c1, c2⟩ := hs.c i _ HXI.out
        simp only at c2
        have HS2 := Lib.hid hs
        by_cases hkm : k < m
        · obtain ⟨ad, y, rfl, hy, hcell, hfz, hOa, _⟩ := (hs.b _ HXM.out).at_ (show k < m from hkm)
          obtain ⟨y1, hy1⟩ : ∃ y1, y1 = (y + 1) % 256 := ⟨_, rfl⟩
          have hy2 : y1 < 256 := by omega
          have hw8 : IntKind.u8.wrap ((y : Int) + 1) = (y1 : Int) := by rw [IntKind.wrap_u8]; omega
          have HSS := Lib.hid ((hs.byte HT.out (ad.add k) y y1 hcell (by rw [block_of_add]; exact hOa) hy2).drew)
          have hin2 : ((k : Int) < (m : Int)) := by omega
          have hk0 : (0 : Int) ≤ (k : Int) := by omega
          have hWk : IntKind.i64.wrap ((k : Int) + 1) = ((k + 1 : Nat) : Int) := by rw [IntWalk.i64_in _ (by omega)]; omega
          have hcd : World.cell? (World.drew _) (ad.add k) = _ := hcell
          have hfd : World.frozen? (World.drew _) (ad.add k) = false := hfz
          have c2d : World.cell? (World.drew _) ⟨g, i * 3 + 2, none⟩ = _ := c2
          have b3d : World.cell? (World.drew _) ⟨w.heap.size, 3, none⟩ = _ := b3
          clear hs hbr hy1 hy c0 c1 hOa
          go_wp2_with fail
          go_region
          all_goals
            go_wp2
            go_roundw
            case rel => exact ⟨k + 1, by go_num, by omega, HSS.out⟩
            case measure => simp [intOf]; omega
        · have h1d : decide ((k : Int) < (m : Int)) = false := decide_eq_false (by omega)
          have h1d2 : decide (k < m) = false := decide_eq_false hkm
          have fz1 := hs.z (i * 3 + 1)
          obtain ⟨X1, hX1, hk9⟩ := hs.killer99 HT.out i HIL.out
          have HK9 := Lib.hid hk9
          clear hk9
          have hbr1 := HBX.out.keep HK9.out.f fun h => h.elim (fun h => by have := HG.out; omega) fun h => by have := HTB.out _ h; omega
          have e3 := hbr1.cell 3
          simp only [List.getElem?_toArray, List.getElem?_cons_zero, List.getElem?_cons_succ] at e3
          obtain ⟨u1, k1, d0, d1, d2⟩ := HK9.out.c i _ HXI.out
          have fz0 := HK9.out.z (i * 3)
          have e3d : World.cell? (World.drew _) ⟨w.heap.size, 3, none⟩ = _ := e3
          have d0d : World.cell? (World.drew _) ⟨g, i * 3, none⟩ = _ := d0
          have fz0d : World.frozen? (World.drew _) ⟨g, i * 3, none⟩ = false := fz0
          have HU9 := Lib.hid ((HK9.out.used HT.out i HIL.out (!u1)).drew)
          clear hs hbr hbr1 d1 d2
          go_wp2_with fail
          go_region
          all_goals
            go_wp2
            go_roundw
            case rel => exact ⟨i + 1, by go_num, by omega, HU9.out⟩
            case measure => simp [intOf]; omega
    · have h1d : decide ((i : Int) < (n : Int)) = false := decide_eq_false (by omega)
      have h1d2 : decide (i < n) = false := decide_eq_false hlt
      go_wp2_with fail
      refine bodyPost_end (v := .tuple #[]) (by simp [results, Try.results28, go_sem]) rfl ?_
      exact ⟨rfl, (HFW.out.mono (T := fun b => b = g ∨ T b) fun _ _ hn => hn.elim).trans HS.out.f fun b hb => Or.inl hb⟩
end Go.Proofs.Ytajmpoanmdgmpaa
