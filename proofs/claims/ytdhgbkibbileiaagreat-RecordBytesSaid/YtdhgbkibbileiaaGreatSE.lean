/-
  HOW RECORDS AND BYTES THAT COME IN ARE OPENED.
-/
import Derived.Test.YtdhgbkibbileiaaGreatRC
import Derived.Deep.Slices
import Derived.ProofKit
import Derived.OpenShut
import Derived.ShutString
import Derived.ChangeOld
import Derived.Below
import Derived.SizedLaws
import Derived.Lib.SmallJoins
namespace Go.Proofs.YtdhgbkibbileiaaGreat
open Go.ChangeShapes Go.WideShapes Go.ChangeAt Go.RowKit

set_option maxRecDepth 100000 in
theorem own : ownKnob Tryz.prog.godebug = none := by kernel_rfl
set_option maxRecDepth 100000 in
theorem laidOut : laidOutB Tryz.prog = true := by kernel_rfl
set_option maxRecDepth 100000 in
theorem bytes5 : Tryz.prog.bytesOf 5 = 1 := by kernel_rfl
set_option maxRecDepth 100000 in
theorem cells3 : Tryz.prog.cellsOf 3 = 1 := by kernel_rfl
set_option maxRecDepth 100000 in
theorem cells4 : Tryz.prog.cellsOf 4 = 1 := by kernel_rfl
set_option maxRecDepth 100000 in
theorem cells22 : Tryz.prog.cellsOf 22 = 1 := by kernel_rfl
set_option maxRecDepth 100000 in
theorem cells23 : Tryz.prog.cellsOf 23 = 1 := by kernel_rfl
set_option maxRecDepth 100000 in
theorem cells24 : Tryz.prog.cellsOf 24 = 1 := by kernel_rfl
set_option maxRecDepth 100000 in
theorem cells26 : Tryz.prog.cellsOf 26 = 4 := by kernel_rfl
set_option maxRecDepth 100000 in
theorem cells27 : Tryz.prog.cellsOf 27 = 1 := by kernel_rfl
set_option maxRecDepth 100000 in
theorem cells28 : Tryz.prog.cellsOf 28 = 1 := by kernel_rfl
set_option maxRecDepth 100000 in
theorem cells29 : Tryz.prog.cellsOf 29 = 1 := by kernel_rfl
set_option maxRecDepth 100000 in
theorem cells31 : Tryz.prog.cellsOf 31 = 15 := by kernel_rfl
set_option maxRecDepth 100000 in
theorem cells49 : Tryz.prog.cellsOf 49 = 1 := by kernel_rfl
set_option maxRecDepth 100000 in
theorem cells51 : Tryz.prog.cellsOf 51 = 4 := by kernel_rfl
set_option maxRecDepth 100000 in
theorem cells53 : Tryz.prog.cellsOf 53 = 5 := by kernel_rfl
set_option maxRecDepth 100000 in
theorem cells55 : Tryz.prog.cellsOf 55 = 3 := by kernel_rfl
set_option maxRecDepth 100000 in
theorem cells62 : Tryz.prog.cellsOf 62 = 4 := by kernel_rfl
set_option maxRecDepth 100000 in
theorem cells64 : Tryz.prog.cellsOf 64 = 2 := by kernel_rfl
set_option maxRecDepth 100000 in
theorem bytes_open {H : Type} {enc : TypeId × Value → H} {W : World} {a : Option Addr} {n c : Nat} {f : Nat} {y : DataW H × List MemPlace}
    (hf : DataW.trod enc Tryz.prog W 0 (fun _ => true) true f 24 (Value.cells (.slice a n c)).toList = some y) : ∃ l, RB W All a n l ∧ n ≤ c ∧ n ≤ maxLen ∧ (a = none → c = 0) := by
  rcases open_ints Tryz.underlying24 Tryz.underlying5 (by kernel_rfl) hf with ⟨hcs, hx⟩ | ⟨x, l, c', zs, hcs, _, hl, hm, hz, hx, hcell, hwz⟩
  · simp [Value.cells] at hcs
    obtain ⟨rfl, rfl, rfl⟩ := hcs
    exact ⟨[], RB.nil_, Nat.le_refl _, Nat.zero_le _, fun _ => rfl⟩
  · simp [Value.cells] at hcs
    obtain ⟨rfl, rfl, rfl⟩ := hcs
    simp only [if_true] at hz
    have hbd : ∀ z ∈ zs, 0 ≤ z ∧ z ≤ 255 := fun z hz => by simpa [Lit.wf, IntKind.min, IntKind.max, IntKind.signed, IntKind.bits] using hwz z hz
    refine ⟨(zs.take n).map Int.toNat, ⟨by simp; omega, ?_, fun hn => ?_⟩, hl, by omega, fun e => by cases e⟩
    · intro y hy
      simp only [List.mem_map] at hy
      obtain ⟨z, hz1, rfl⟩ := hy
      have := hbd z (List.mem_of_mem_take hz1)
      omega
    · have hb := World.block_lt_of_cell? W _ (hcell 0 (by omega))
      rw [block_of_add] at hb
      refine ⟨x, rfl, hb, trivial, fun j hj => ?_⟩
      rw [hcell j (by omega)]
      have hjz : j < zs.length := by omega
      have := hbd zs[j] (List.getElem_mem hjz)
      have e1 : zs.getD j 0 = zs[j] := by simp [hjz]
      have e2 : ((zs.take n).map Int.toNat).getD j 0 = zs[j].toNat := by simp [hj, hjz]
      rw [e1, e2, Int.toNat_of_nonneg this.1]
theorem list_of {α : Type} {P : Nat → α → Prop} (n : Nat) (h : ∀ i, i < n → ∃ it, P i it) : ∃ its : List α, its.length = n ∧ ∀ i it, its[i]? = some it → P i it := by
  induction n with
  | zero => exact ⟨[], rfl, fun i it hi => by simp at hi⟩
  | succ n ih =>
    obtain ⟨its, hl, hp⟩ := ih fun i hi => h i (by omega)
    obtain ⟨it, hit⟩ := h n (by omega)
    refine ⟨its ++ [it], by simp [hl], fun i it' hi => ?_⟩
    rcases Nat.lt_or_ge i its.length with hlt | hge
    · rw [List.getElem?_append_left hlt] at hi
      exact hp i it' hi
    · rw [List.getElem?_append_right hge] at hi
      have h0 : i - its.length = 0 := by
        rcases Nat.eq_zero_or_pos (i - its.length) with h0 | h0
        · exact h0
        · rw [List.getElem?_eq_none (by simp; omega)] at hi; cases hi
      rw [h0] at hi
      simp at hi
      subst hi
      obtain rfl : i = n := by omega
      exact hit
set_option maxHeartbeats 2000000 in
set_option maxRecDepth 100000 in
theorem cells_open {H : Type} {enc : TypeId × Value → H} {W : World} {a : Option Addr} {n c : Nat} {f : Nat} {y : DataW H × List MemPlace}
    (hf : DataW.trod enc Tryz.prog W 0 (fun _ => true) true f 49 (Value.cells (.slice a n c)).toList = some y) : ∃ l, CR W All All a n l ∧ n ≤ c ∧ (a = none → c = 0) := by
  rcases Go.Deep.open_slice Tryz.underlying49 hf with ⟨hcs, hx⟩ | ⟨ad, l, cap, m, f1, D, Pl, hcs, _, hl, hm, hmm, hx, hi⟩
  · simp [Value.cells] at hcs
    obtain ⟨rfl, rfl, rfl⟩ := hcs
    exact ⟨[], ⟨rfl, (fun x hx => by cases hx), Nat.zero_le _, fun h => absurd h (by omega)⟩, Nat.le_refl _, fun _ => rfl⟩
  · simp [Value.cells] at hcs
    obtain ⟨rfl, rfl, rfl⟩ := hcs
    simp only [if_true] at hmm
    subst hmm
    have key : ∀ i, i < n → ∃ s : CV, s.In W All ∧ W.cell? (ad.add (i * 3)) = some (.bool s.u) ∧ W.cell? (ad.add (i * 3 + 1)) = some (.int .u32 (s.k : Int)) ∧ W.cell? (ad.add (i * 3 + 2)) = some (.slice s.A s.m s.c) := by
      intro i hin
      obtain ⟨cs', hc, ht⟩ := hi i (by omega)
      rw [cells55] at hc
      obtain ⟨ys, n', hn', hy, hlen, hyl, hfl⟩ := DataW.trod_struct Tryz.underlying55 ht
      obtain ⟨_, hcl, hat⟩ := World.cells?_some hc
      match cs', hcl with
      | [v0, v1, v2], _ =>
        match ys, hyl with
        | [y0, y1, y2], _ =>
          have g0 : DataW.trod enc Tryz.prog W 0 (fun _ => true) true n' 4 [v0] = some y0 := by
            have g := hfl 0 _ rfl
            simpa [cells3, cells4, cells22, cells23, cells24, cells26, cells27, cells28, cells29, cells49, cells51] using g
          have g1 : DataW.trod enc Tryz.prog W 0 (fun _ => true) true n' 23 [v1] = some y1 := by
            have g := hfl 1 _ rfl
            simpa [cells3, cells4, cells22, cells23, cells24, cells26, cells27, cells28, cells29, cells49, cells51] using g
          have g2 : DataW.trod enc Tryz.prog W 0 (fun _ => true) true n' 24 [v2] = some y2 := by
            have g := hfl 2 _ rfl
            simpa [cells3, cells4, cells22, cells23, cells24, cells26, cells27, cells28, cells29, cells49, cells51] using g
          obtain ⟨q0, e0, _⟩ := DataW.trod_bool Tryz.underlying4 g0
          obtain ⟨q1, e1, _, w1⟩ := DataW.trod_int Tryz.underlying23 g1
          simp only [List.cons.injEq, and_true] at e0 e1
          subst e0 e1
          have b1 : 0 ≤ q1 ∧ q1 ≤ 4294967295 := by simpa [Lit.wf, IntKind.min, IntKind.max, IntKind.signed, IntKind.bits] using w1
          obtain ⟨x1, rfl⟩ := Int.eq_ofNat_of_zero_le b1.1
          have f2 : ∃ A m c, v2 = .slice A m c := by
            rcases Go.Deep.open_slice Tryz.underlying24 g2 with ⟨hcs, _⟩ | ⟨ad, l, cap, m, f1, D, Pl, hcs, _⟩
            · simp only [List.cons.injEq, and_true] at hcs; exact ⟨_, _, _, hcs⟩
            · simp only [List.cons.injEq, and_true] at hcs; exact ⟨_, _, _, hcs⟩
          obtain ⟨A2, m2, c2, rfl⟩ := f2
          obtain ⟨l2, r2, mc2, ml2, nz2⟩ := bytes_open (a := A2) (n := m2) (c := c2) (by simpa [Value.cells] using g2)
          have k0 := hat 0 (by omega)
          have k1 := hat 1 (by omega)
          have k2 := hat 2 (by omega)
          simp only [add_of_add] at k0 k1 k2
          exact ⟨⟨q0, x1, A2, m2, c2, l2⟩, ⟨r2, by simp only; omega, mc2, by simpa [maxLen] using ml2, nz2⟩, by simpa using k0, by simpa using k1, by simpa using k2⟩
    obtain ⟨its, hlen, hits⟩ := list_of n key
    refine ⟨its, ⟨hlen, fun it hit => ?_, by simp only [maxLen] at hm; omega, fun hpos => ?_⟩, hl, fun e => by cases e⟩
    · obtain ⟨i, hi⟩ := List.getElem?_of_mem hit
      exact (hits i it hi).1
    · obtain ⟨b, o, spot⟩ := ad
      obtain ⟨it0, _, h0, _⟩ := key 0 hpos
      have hspot : spot = none := by simpa [Addr.add] using World.cell?_spot h0
      subst hspot
      have hb := World.block_lt_of_cell? W _ h0
      rw [block_of_add] at hb
      refine ⟨b, o, rfl, hb, trivial, fun i it hi => ?_⟩
      obtain ⟨_, c0, c1, c2⟩ := hits i it hi
      have e : ∀ j, (⟨b, o, none⟩ : Addr).add j = ⟨b, o + j, none⟩ := fun j => Addr.add_mid b o j
      simp only [e, ← Nat.add_assoc] at c0 c1 c2
      exact ⟨c0, c1, c2⟩
set_option maxHeartbeats 2000000 in
set_option maxRecDepth 100000 in
theorem lives_open {H : Type} {enc : TypeId × Value → H} {W : World} {a : Option Addr} {n c : Nat} {f : Nat} {y : DataW H × List MemPlace}
    (hf : DataW.trod enc Tryz.prog W 0 (fun _ => true) true f 28 (Value.cells (.slice a n c)).toList = some y) : ∃ l, LVR W All a n l ∧ n ≤ c ∧ (a = none → c = 0) := by
  rcases Go.Deep.open_slice Tryz.underlying28 hf with ⟨hcs, hx⟩ | ⟨ad, l, cap, m, f1, D, Pl, hcs, _, hl, hm, hmm, hx, hi⟩
  · simp [Value.cells] at hcs
    obtain ⟨rfl, rfl, rfl⟩ := hcs
    exact ⟨[], ⟨rfl, (fun x hx => by cases hx), Nat.zero_le _, fun h => absurd h (by omega)⟩, Nat.le_refl _, fun _ => rfl⟩
  · simp [Value.cells] at hcs
    obtain ⟨rfl, rfl, rfl⟩ := hcs
    simp only [if_true] at hmm
    subst hmm
    have key : ∀ i, i < n → ∃ s : LV, s.In W All ∧ W.cell? (ad.add (i * 4)) = some (.int .u32 (s.t : Int)) ∧ W.cell? (ad.add (i * 4 + 1)) = some (.int .u64 (s.a : Int)) ∧ W.cell? (ad.add (i * 4 + 2)) = some (.int .u64 (s.b : Int)) ∧ W.cell? (ad.add (i * 4 + 3)) = some (.bool s.z) := by
      intro i hin
      obtain ⟨cs', hc, ht⟩ := hi i (by omega)
      rw [cells62] at hc
      obtain ⟨ys, n', hn', hy, hlen, hyl, hfl⟩ := DataW.trod_struct Tryz.underlying62 ht
      obtain ⟨_, hcl, hat⟩ := World.cells?_some hc
      match cs', hcl with
      | [v0, v1, v2, v3], _ =>
        match ys, hyl with
        | [y0, y1, y2, y3], _ =>
          have g0 : DataW.trod enc Tryz.prog W 0 (fun _ => true) true n' 23 [v0] = some y0 := by
            have g := hfl 0 _ rfl
            simpa [cells3, cells4, cells22, cells23, cells24, cells26, cells27, cells28, cells29, cells49, cells51] using g
          have g1 : DataW.trod enc Tryz.prog W 0 (fun _ => true) true n' 22 [v1] = some y1 := by
            have g := hfl 1 _ rfl
            simpa [cells3, cells4, cells22, cells23, cells24, cells26, cells27, cells28, cells29, cells49, cells51] using g
          have g2 : DataW.trod enc Tryz.prog W 0 (fun _ => true) true n' 22 [v2] = some y2 := by
            have g := hfl 2 _ rfl
            simpa [cells3, cells4, cells22, cells23, cells24, cells26, cells27, cells28, cells29, cells49, cells51] using g
          have g3 : DataW.trod enc Tryz.prog W 0 (fun _ => true) true n' 4 [v3] = some y3 := by
            have g := hfl 3 _ rfl
            simpa [cells3, cells4, cells22, cells23, cells24, cells26, cells27, cells28, cells29, cells49, cells51] using g
          obtain ⟨q0, e0, _, w0⟩ := DataW.trod_int Tryz.underlying23 g0
          obtain ⟨q1, e1, _, w1⟩ := DataW.trod_int Tryz.underlying22 g1
          obtain ⟨q2, e2, _, w2⟩ := DataW.trod_int Tryz.underlying22 g2
          obtain ⟨q3, e3, _⟩ := DataW.trod_bool Tryz.underlying4 g3
          simp only [List.cons.injEq, and_true] at e0 e1 e2 e3
          subst e0 e1 e2 e3
          have b0 : 0 ≤ q0 ∧ q0 ≤ 4294967295 := by simpa [Lit.wf, IntKind.min, IntKind.max, IntKind.signed, IntKind.bits] using w0
          have b1 : 0 ≤ q1 ∧ q1 ≤ 18446744073709551615 := by simpa [Lit.wf, IntKind.min, IntKind.max, IntKind.signed, IntKind.bits] using w1
          have b2 : 0 ≤ q2 ∧ q2 ≤ 18446744073709551615 := by simpa [Lit.wf, IntKind.min, IntKind.max, IntKind.signed, IntKind.bits] using w2
          obtain ⟨x0, rfl⟩ := Int.eq_ofNat_of_zero_le b0.1
          obtain ⟨x1, rfl⟩ := Int.eq_ofNat_of_zero_le b1.1
          obtain ⟨x2, rfl⟩ := Int.eq_ofNat_of_zero_le b2.1
          have k0 := hat 0 (by omega)
          have k1 := hat 1 (by omega)
          have k2 := hat 2 (by omega)
          have k3 := hat 3 (by omega)
          simp only [add_of_add] at k0 k1 k2 k3
          exact ⟨⟨x0, x1, x2, q3⟩, ⟨by simp only; omega, by simp only; omega, by simp only; omega⟩, by simpa using k0, by simpa using k1, by simpa using k2, by simpa using k3⟩
    obtain ⟨its, hlen, hits⟩ := list_of n key
    refine ⟨its, ⟨hlen, fun it hit => ?_, by simp only [maxLen] at hm; omega, fun hpos => ?_⟩, hl, fun e => by cases e⟩
    · obtain ⟨i, hi⟩ := List.getElem?_of_mem hit
      exact (hits i it hi).1
    · obtain ⟨b, o, spot⟩ := ad
      obtain ⟨it0, _, h0, _⟩ := key 0 hpos
      have hspot : spot = none := by simpa [Addr.add] using World.cell?_spot h0
      subst hspot
      have hb := World.block_lt_of_cell? W _ h0
      rw [block_of_add] at hb
      refine ⟨b, o, rfl, hb, trivial, fun i it hi => ?_⟩
      obtain ⟨_, c0, c1, c2, c3⟩ := hits i it hi
      have e : ∀ j, (⟨b, o, none⟩ : Addr).add j = ⟨b, o + j, none⟩ := fun j => Addr.add_mid b o j
      simp only [e, ← Nat.add_assoc] at c0 c1 c2 c3
      exact ⟨c0, c1, c2, c3⟩
set_option maxHeartbeats 2000000 in
set_option maxRecDepth 100000 in
theorem dirty_open {H : Type} {enc : TypeId × Value → H} {W : World} {a : Option Addr} {n c : Nat} {f : Nat} {y : DataW H × List MemPlace}
    (hf : DataW.trod enc Tryz.prog W 0 (fun _ => true) true f 29 (Value.cells (.slice a n c)).toList = some y) : ∃ l, DVR W All a n l ∧ n ≤ c ∧ (a = none → c = 0) := by
  rcases Go.Deep.open_slice Tryz.underlying29 hf with ⟨hcs, hx⟩ | ⟨ad, l, cap, m, f1, D, Pl, hcs, _, hl, hm, hmm, hx, hi⟩
  · simp [Value.cells] at hcs
    obtain ⟨rfl, rfl, rfl⟩ := hcs
    exact ⟨[], ⟨rfl, (fun x hx => by cases hx), Nat.zero_le _, fun h => absurd h (by omega)⟩, Nat.le_refl _, fun _ => rfl⟩
  · simp [Value.cells] at hcs
    obtain ⟨rfl, rfl, rfl⟩ := hcs
    simp only [if_true] at hmm
    subst hmm
    have key : ∀ i, i < n → ∃ s : DV, s.In W All ∧ W.cell? (ad.add (i * 2)) = some (.int .u32 (s.t : Int)) ∧ W.cell? (ad.add (i * 2 + 1)) = some (.int .u64 (s.a : Int)) := by
      intro i hin
      obtain ⟨cs', hc, ht⟩ := hi i (by omega)
      rw [cells64] at hc
      obtain ⟨ys, n', hn', hy, hlen, hyl, hfl⟩ := DataW.trod_struct Tryz.underlying64 ht
      obtain ⟨_, hcl, hat⟩ := World.cells?_some hc
      match cs', hcl with
      | [v0, v1], _ =>
        match ys, hyl with
        | [y0, y1], _ =>
          have g0 : DataW.trod enc Tryz.prog W 0 (fun _ => true) true n' 23 [v0] = some y0 := by
            have g := hfl 0 _ rfl
            simpa [cells3, cells4, cells22, cells23, cells24, cells26, cells27, cells28, cells29, cells49, cells51] using g
          have g1 : DataW.trod enc Tryz.prog W 0 (fun _ => true) true n' 22 [v1] = some y1 := by
            have g := hfl 1 _ rfl
            simpa [cells3, cells4, cells22, cells23, cells24, cells26, cells27, cells28, cells29, cells49, cells51] using g
          obtain ⟨q0, e0, _, w0⟩ := DataW.trod_int Tryz.underlying23 g0
          obtain ⟨q1, e1, _, w1⟩ := DataW.trod_int Tryz.underlying22 g1
          simp only [List.cons.injEq, and_true] at e0 e1
          subst e0 e1
          have b0 : 0 ≤ q0 ∧ q0 ≤ 4294967295 := by simpa [Lit.wf, IntKind.min, IntKind.max, IntKind.signed, IntKind.bits] using w0
          have b1 : 0 ≤ q1 ∧ q1 ≤ 18446744073709551615 := by simpa [Lit.wf, IntKind.min, IntKind.max, IntKind.signed, IntKind.bits] using w1
          obtain ⟨x0, rfl⟩ := Int.eq_ofNat_of_zero_le b0.1
          obtain ⟨x1, rfl⟩ := Int.eq_ofNat_of_zero_le b1.1
          have k0 := hat 0 (by omega)
          have k1 := hat 1 (by omega)
          simp only [add_of_add] at k0 k1
          exact ⟨⟨x0, x1⟩, ⟨by simp only; omega, by simp only; omega⟩, by simpa using k0, by simpa using k1⟩
    obtain ⟨its, hlen, hits⟩ := list_of n key
    refine ⟨its, ⟨hlen, fun it hit => ?_, by simp only [maxLen] at hm; omega, fun hpos => ?_⟩, hl, fun e => by cases e⟩
    · obtain ⟨i, hi⟩ := List.getElem?_of_mem hit
      exact (hits i it hi).1
    · obtain ⟨b, o, spot⟩ := ad
      obtain ⟨it0, _, h0, _⟩ := key 0 hpos
      have hspot : spot = none := by simpa [Addr.add] using World.cell?_spot h0
      subst hspot
      have hb := World.block_lt_of_cell? W _ h0
      rw [block_of_add] at hb
      refine ⟨b, o, rfl, hb, trivial, fun i it hi => ?_⟩
      obtain ⟨_, c0, c1⟩ := hits i it hi
      have e : ∀ j, (⟨b, o, none⟩ : Addr).add j = ⟨b, o + j, none⟩ := fun j => Addr.add_mid b o j
      simp only [e, ← Nat.add_assoc] at c0 c1
      exact ⟨c0, c1⟩
set_option maxHeartbeats 2000000 in
set_option maxRecDepth 100000 in
theorem images_open {H : Type} {enc : TypeId × Value → H} {W : World} {a : Option Addr} {n c : Nat} {f : Nat} {y : DataW H × List MemPlace}
    (hf : DataW.trod enc Tryz.prog W 0 (fun _ => true) true f 27 (Value.cells (.slice a n c)).toList = some y) : ∃ l, IVR W All a n l ∧ n ≤ c ∧ (a = none → c = 0) := by
  rcases Go.Deep.open_slice Tryz.underlying27 hf with ⟨hcs, hx⟩ | ⟨ad, l, cap, m, f1, D, Pl, hcs, _, hl, hm, hmm, hx, hi⟩
  · simp [Value.cells] at hcs
    obtain ⟨rfl, rfl, rfl⟩ := hcs
    exact ⟨[], ⟨rfl, (fun x hx => by cases hx), Nat.zero_le _, fun h => absurd h (by omega)⟩, Nat.le_refl _, fun _ => rfl⟩
  · simp [Value.cells] at hcs
    obtain ⟨rfl, rfl, rfl⟩ := hcs
    simp only [if_true] at hmm
    subst hmm
    have key : ∀ i, i < n → ∃ s : IV, s.In W All ∧ W.cell? (ad.add (i * 5)) = some (.int .u32 (s.t : Int)) ∧ W.cell? (ad.add (i * 5 + 1)) = some (.int .i64 s.p.k) ∧ W.cell? (ad.add (i * 5 + 2)) = some (.int .u64 (s.p.s : Int)) ∧ W.cell? (ad.add (i * 5 + 3)) = some (.int .u32 (s.p.x : Int)) ∧ W.cell? (ad.add (i * 5 + 4)) = some (.slice s.p.A s.p.n s.p.c) := by
      intro i hin
      obtain ⟨cs', hc, ht⟩ := hi i (by omega)
      rw [cells53] at hc
      obtain ⟨ys, n', hn', hy, hlen, hyl, hfl⟩ := DataW.trod_struct Tryz.underlying53 ht
      obtain ⟨_, hcl, hat⟩ := World.cells?_some hc
      match cs', hcl with
      | [v0, v1, v2, v3, v4], _ =>
        match ys, hyl with
        | [y0, yp], _ =>
          have g0 : DataW.trod enc Tryz.prog W 0 (fun _ => true) true n' 23 [v0] = some y0 := by
            have g := hfl 0 _ rfl
            simpa [cells3, cells4, cells22, cells23, cells24, cells26, cells27, cells28, cells29, cells49, cells51] using g
          have gp : DataW.trod enc Tryz.prog W 0 (fun _ => true) true n' 51 [v1, v2, v3, v4] = some yp := by
            have g := hfl 1 _ rfl
            simpa [cells3, cells4, cells22, cells23, cells24, cells26, cells27, cells28, cells29, cells49, cells51] using g
          obtain ⟨ys2, n2, hn2, hy2, hlen2, hyl2, hfl2⟩ := DataW.trod_struct Tryz.underlying51 gp
          match ys2, hyl2 with
          | [y1, y2, y3, y4], _ =>
            have g1 : DataW.trod enc Tryz.prog W 0 (fun _ => true) true n2 3 [v1] = some y1 := by
              have g := hfl2 0 _ rfl
              simpa [cells3, cells4, cells22, cells23, cells24, cells26, cells27, cells28, cells29, cells49, cells51] using g
            have g2 : DataW.trod enc Tryz.prog W 0 (fun _ => true) true n2 22 [v2] = some y2 := by
              have g := hfl2 1 _ rfl
              simpa [cells3, cells4, cells22, cells23, cells24, cells26, cells27, cells28, cells29, cells49, cells51] using g
            have g3 : DataW.trod enc Tryz.prog W 0 (fun _ => true) true n2 23 [v3] = some y3 := by
              have g := hfl2 2 _ rfl
              simpa [cells3, cells4, cells22, cells23, cells24, cells26, cells27, cells28, cells29, cells49, cells51] using g
            have g4 : DataW.trod enc Tryz.prog W 0 (fun _ => true) true n2 49 [v4] = some y4 := by
              have g := hfl2 3 _ rfl
              simpa [cells3, cells4, cells22, cells23, cells24, cells26, cells27, cells28, cells29, cells49, cells51] using g
            obtain ⟨q0, e0, _, w0⟩ := DataW.trod_int Tryz.underlying23 g0
            obtain ⟨q1, e1, _, w1⟩ := DataW.trod_int Tryz.underlying3 g1
            obtain ⟨q2, e2, _, w2⟩ := DataW.trod_int Tryz.underlying22 g2
            obtain ⟨q3, e3, _, w3⟩ := DataW.trod_int Tryz.underlying23 g3
            simp only [List.cons.injEq, and_true] at e0 e1 e2 e3
            subst e0 e1 e2 e3
            have b0 : 0 ≤ q0 ∧ q0 ≤ 4294967295 := by simpa [Lit.wf, IntKind.min, IntKind.max, IntKind.signed, IntKind.bits] using w0
            have b1 : -9223372036854775808 ≤ q1 ∧ q1 ≤ 9223372036854775807 := by simpa [Lit.wf, IntKind.min, IntKind.max, IntKind.signed, IntKind.bits] using w1
            have b2 : 0 ≤ q2 ∧ q2 ≤ 18446744073709551615 := by simpa [Lit.wf, IntKind.min, IntKind.max, IntKind.signed, IntKind.bits] using w2
            have b3 : 0 ≤ q3 ∧ q3 ≤ 4294967295 := by simpa [Lit.wf, IntKind.min, IntKind.max, IntKind.signed, IntKind.bits] using w3
            obtain ⟨x0, rfl⟩ := Int.eq_ofNat_of_zero_le b0.1
            obtain ⟨x2, rfl⟩ := Int.eq_ofNat_of_zero_le b2.1
            obtain ⟨x3, rfl⟩ := Int.eq_ofNat_of_zero_le b3.1
            have f4 : ∃ A m c, v4 = .slice A m c := by
              rcases Go.Deep.open_slice Tryz.underlying49 g4 with ⟨hcs, _⟩ | ⟨ad, l, cap, m, f1, D, Pl, hcs, _⟩
              · simp only [List.cons.injEq, and_true] at hcs; exact ⟨_, _, _, hcs⟩
              · simp only [List.cons.injEq, and_true] at hcs; exact ⟨_, _, _, hcs⟩
            obtain ⟨A4, m4, c4, rfl⟩ := f4
            obtain ⟨l4, r4, mc4, nz4⟩ := cells_open (a := A4) (n := m4) (c := c4) (by simpa [Value.cells] using g4)
            have k0 := hat 0 (by omega)
            have k1 := hat 1 (by omega)
            have k2 := hat 2 (by omega)
            have k3 := hat 3 (by omega)
            have k4 := hat 4 (by omega)
            simp only [add_of_add] at k0 k1 k2 k3 k4
            exact ⟨⟨x0, ⟨q1, x2, x3, A4, m4, c4, l4⟩⟩, ⟨by simp only; omega, ⟨r4, mc4, nz4, b1.1, b1.2, by simp only; omega, by simp only; omega⟩⟩, by simpa using k0, by simpa using k1, by simpa using k2, by simpa using k3, by simpa using k4⟩
    obtain ⟨its, hlen, hits⟩ := list_of n key
    refine ⟨its, ⟨hlen, fun it hit => ?_, by simp only [maxLen] at hm; omega, fun hpos => ?_⟩, hl, fun e => by cases e⟩
    · obtain ⟨i, hi⟩ := List.getElem?_of_mem hit
      exact (hits i it hi).1
    · obtain ⟨b, o, spot⟩ := ad
      obtain ⟨it0, _, h0, _⟩ := key 0 hpos
      have hspot : spot = none := by simpa [Addr.add] using World.cell?_spot h0
      subst hspot
      have hb := World.block_lt_of_cell? W _ h0
      rw [block_of_add] at hb
      refine ⟨b, o, rfl, hb, trivial, fun i it hi => ?_⟩
      obtain ⟨_, c0, c1, c2, c3, c4⟩ := hits i it hi
      have e : ∀ j, (⟨b, o, none⟩ : Addr).add j = ⟨b, o + j, none⟩ := fun j => Addr.add_mid b o j
      simp only [e, ← Nat.add_assoc] at c0 c1 c2 c3 c4
      exact ⟨c0, c1, c2, c3, c4⟩
/-- a record that came in: its rows lie within their room -/
structure RV.Came (w : World) (r : RV) : Prop where
  inn : r.In w All
  ic : r.im ≤ r.ic
  iz : r.iA = none → r.ic = 0
  lc : r.lm ≤ r.lc
  lz : r.lA = none → r.lc = 0
  dc : r.dm ≤ r.dc
  dz : r.dA = none → r.dc = 0
set_option maxHeartbeats 4000000 in
set_option maxRecDepth 100000 in
theorem record_open_ {H : Type} {enc : TypeId × Value → H} {W : World} {f : Nat} {cs : List Value} {y : DataW H × List MemPlace} (hcl : cs.length = 15)
    (ht : DataW.trod enc Tryz.prog W 0 (fun _ => true) true f 31 cs = some y) : ∃ q : RV, q.Came W ∧ cs = (rcs q).toList := by
  obtain ⟨ys, n', hn', hy, hlen, hyl, hfl⟩ := DataW.trod_struct Tryz.underlying31 ht
  match cs, hcl with
  | [v0, v1, v2, v3, v4, v5, v6, v7, v8, v9, v10, v11, v12, v13, v14], _ =>
    match ys, hyl with
    | [y0, y1, y2, y3, y4, y5, y6, yp, y11, y12, y13, y14], _ =>
      have g0 : DataW.trod enc Tryz.prog W 0 (fun _ => true) true n' 3 [v0] = some y0 := by
        have g := hfl 0 _ rfl
        simpa [cells3, cells4, cells22, cells23, cells24, cells26, cells27, cells28, cells29, cells49, cells51] using g
      have g1 : DataW.trod enc Tryz.prog W 0 (fun _ => true) true n' 22 [v1] = some y1 := by
        have g := hfl 1 _ rfl
        simpa [cells3, cells4, cells22, cells23, cells24, cells26, cells27, cells28, cells29, cells49, cells51] using g
      have g2 : DataW.trod enc Tryz.prog W 0 (fun _ => true) true n' 23 [v2] = some y2 := by
        have g := hfl 2 _ rfl
        simpa [cells3, cells4, cells22, cells23, cells24, cells26, cells27, cells28, cells29, cells49, cells51] using g
      have g3 : DataW.trod enc Tryz.prog W 0 (fun _ => true) true n' 22 [v3] = some y3 := by
        have g := hfl 3 _ rfl
        simpa [cells3, cells4, cells22, cells23, cells24, cells26, cells27, cells28, cells29, cells49, cells51] using g
      have g4 : DataW.trod enc Tryz.prog W 0 (fun _ => true) true n' 22 [v4] = some y4 := by
        have g := hfl 4 _ rfl
        simpa [cells3, cells4, cells22, cells23, cells24, cells26, cells27, cells28, cells29, cells49, cells51] using g
      have g5 : DataW.trod enc Tryz.prog W 0 (fun _ => true) true n' 23 [v5] = some y5 := by
        have g := hfl 5 _ rfl
        simpa [cells3, cells4, cells22, cells23, cells24, cells26, cells27, cells28, cells29, cells49, cells51] using g
      have g6 : DataW.trod enc Tryz.prog W 0 (fun _ => true) true n' 23 [v6] = some y6 := by
        have g := hfl 6 _ rfl
        simpa [cells3, cells4, cells22, cells23, cells24, cells26, cells27, cells28, cells29, cells49, cells51] using g
      have gp : DataW.trod enc Tryz.prog W 0 (fun _ => true) true n' 26 [v7, v8, v9, v10] = some yp := by
        have g := hfl 7 _ rfl
        simpa [cells3, cells4, cells22, cells23, cells24, cells26, cells27, cells28, cells29, cells49, cells51] using g
      have g11 : DataW.trod enc Tryz.prog W 0 (fun _ => true) true n' 27 [v11] = some y11 := by
        have g := hfl 8 _ rfl
        simpa [cells3, cells4, cells22, cells23, cells24, cells26, cells27, cells28, cells29, cells49, cells51] using g
      have g12 : DataW.trod enc Tryz.prog W 0 (fun _ => true) true n' 28 [v12] = some y12 := by
        have g := hfl 9 _ rfl
        simpa [cells3, cells4, cells22, cells23, cells24, cells26, cells27, cells28, cells29, cells49, cells51] using g
      have g13 : DataW.trod enc Tryz.prog W 0 (fun _ => true) true n' 29 [v13] = some y13 := by
        have g := hfl 10 _ rfl
        simpa [cells3, cells4, cells22, cells23, cells24, cells26, cells27, cells28, cells29, cells49, cells51] using g
      have g14 : DataW.trod enc Tryz.prog W 0 (fun _ => true) true n' 23 [v14] = some y14 := by
        have g := hfl 11 _ rfl
        simpa [cells3, cells4, cells22, cells23, cells24, cells26, cells27, cells28, cells29, cells49, cells51] using g
      obtain ⟨ys2, n2, hn2, hy2, hlen2, hyl2, hfl2⟩ := DataW.trod_struct Tryz.underlying26 gp
      match ys2, hyl2 with
      | [y7, y8, y9, y10], _ =>
        have g7 : DataW.trod enc Tryz.prog W 0 (fun _ => true) true n2 3 [v7] = some y7 := by
          have g := hfl2 0 _ rfl
          simpa [cells3, cells4, cells22, cells23, cells24, cells26, cells27, cells28, cells29, cells49, cells51] using g
        have g8 : DataW.trod enc Tryz.prog W 0 (fun _ => true) true n2 3 [v8] = some y8 := by
          have g := hfl2 1 _ rfl
          simpa [cells3, cells4, cells22, cells23, cells24, cells26, cells27, cells28, cells29, cells49, cells51] using g
        have g9 : DataW.trod enc Tryz.prog W 0 (fun _ => true) true n2 23 [v9] = some y9 := by
          have g := hfl2 2 _ rfl
          simpa [cells3, cells4, cells22, cells23, cells24, cells26, cells27, cells28, cells29, cells49, cells51] using g
        have g10 : DataW.trod enc Tryz.prog W 0 (fun _ => true) true n2 24 [v10] = some y10 := by
          have g := hfl2 3 _ rfl
          simpa [cells3, cells4, cells22, cells23, cells24, cells26, cells27, cells28, cells29, cells49, cells51] using g
        obtain ⟨q0, e0, _, w0⟩ := DataW.trod_int Tryz.underlying3 g0
        obtain ⟨q1, e1, _, w1⟩ := DataW.trod_int Tryz.underlying22 g1
        obtain ⟨q2, e2, _, w2⟩ := DataW.trod_int Tryz.underlying23 g2
        obtain ⟨q3, e3, _, w3⟩ := DataW.trod_int Tryz.underlying22 g3
        obtain ⟨q4, e4, _, w4⟩ := DataW.trod_int Tryz.underlying22 g4
        obtain ⟨q5, e5, _, w5⟩ := DataW.trod_int Tryz.underlying23 g5
        obtain ⟨q6, e6, _, w6⟩ := DataW.trod_int Tryz.underlying23 g6
        obtain ⟨q7, e7, _, w7⟩ := DataW.trod_int Tryz.underlying3 g7
        obtain ⟨q8, e8, _, w8⟩ := DataW.trod_int Tryz.underlying3 g8
        obtain ⟨q9, e9, _, w9⟩ := DataW.trod_int Tryz.underlying23 g9
        obtain ⟨q14, e14, _, w14⟩ := DataW.trod_int Tryz.underlying23 g14
        simp only [List.cons.injEq, and_true] at e0 e1 e2 e3 e4 e5 e6 e7 e8 e9 e14
        subst e0 e1 e2 e3 e4 e5 e6 e7 e8 e9 e14
        have b0 : -9223372036854775808 ≤ q0 ∧ q0 ≤ 9223372036854775807 := by simpa [Lit.wf, IntKind.min, IntKind.max, IntKind.signed, IntKind.bits] using w0
        have b1 : 0 ≤ q1 ∧ q1 ≤ 18446744073709551615 := by simpa [Lit.wf, IntKind.min, IntKind.max, IntKind.signed, IntKind.bits] using w1
        have b2 : 0 ≤ q2 ∧ q2 ≤ 4294967295 := by simpa [Lit.wf, IntKind.min, IntKind.max, IntKind.signed, IntKind.bits] using w2
        have b3 : 0 ≤ q3 ∧ q3 ≤ 18446744073709551615 := by simpa [Lit.wf, IntKind.min, IntKind.max, IntKind.signed, IntKind.bits] using w3
        have b4 : 0 ≤ q4 ∧ q4 ≤ 18446744073709551615 := by simpa [Lit.wf, IntKind.min, IntKind.max, IntKind.signed, IntKind.bits] using w4
        have b5 : 0 ≤ q5 ∧ q5 ≤ 4294967295 := by simpa [Lit.wf, IntKind.min, IntKind.max, IntKind.signed, IntKind.bits] using w5
        have b6 : 0 ≤ q6 ∧ q6 ≤ 4294967295 := by simpa [Lit.wf, IntKind.min, IntKind.max, IntKind.signed, IntKind.bits] using w6
        have b7 : -9223372036854775808 ≤ q7 ∧ q7 ≤ 9223372036854775807 := by simpa [Lit.wf, IntKind.min, IntKind.max, IntKind.signed, IntKind.bits] using w7
        have b8 : -9223372036854775808 ≤ q8 ∧ q8 ≤ 9223372036854775807 := by simpa [Lit.wf, IntKind.min, IntKind.max, IntKind.signed, IntKind.bits] using w8
        have b9 : 0 ≤ q9 ∧ q9 ≤ 4294967295 := by simpa [Lit.wf, IntKind.min, IntKind.max, IntKind.signed, IntKind.bits] using w9
        have b14 : 0 ≤ q14 ∧ q14 ≤ 4294967295 := by simpa [Lit.wf, IntKind.min, IntKind.max, IntKind.signed, IntKind.bits] using w14
        obtain ⟨x1, rfl⟩ := Int.eq_ofNat_of_zero_le b1.1
        obtain ⟨x2, rfl⟩ := Int.eq_ofNat_of_zero_le b2.1
        obtain ⟨x3, rfl⟩ := Int.eq_ofNat_of_zero_le b3.1
        obtain ⟨x4, rfl⟩ := Int.eq_ofNat_of_zero_le b4.1
        obtain ⟨x5, rfl⟩ := Int.eq_ofNat_of_zero_le b5.1
        obtain ⟨x6, rfl⟩ := Int.eq_ofNat_of_zero_le b6.1
        obtain ⟨x9, rfl⟩ := Int.eq_ofNat_of_zero_le b9.1
        obtain ⟨x14, rfl⟩ := Int.eq_ofNat_of_zero_le b14.1
        have f10 : ∃ A m c, v10 = .slice A m c := by
          rcases Go.Deep.open_slice Tryz.underlying24 g10 with ⟨hcs, _⟩ | ⟨ad, l, cap, m, f1, D, Pl, hcs, _⟩
          · simp only [List.cons.injEq, and_true] at hcs; exact ⟨_, _, _, hcs⟩
          · simp only [List.cons.injEq, and_true] at hcs; exact ⟨_, _, _, hcs⟩
        obtain ⟨A10, m10, c10, rfl⟩ := f10
        obtain ⟨l10, r10, mc10, ml10, nz10⟩ := bytes_open (a := A10) (n := m10) (c := c10) (by simpa [Value.cells] using g10)
        have f11 : ∃ A m c, v11 = .slice A m c := by
          rcases Go.Deep.open_slice Tryz.underlying27 g11 with ⟨hcs, _⟩ | ⟨ad, l, cap, m, f1, D, Pl, hcs, _⟩
          · simp only [List.cons.injEq, and_true] at hcs; exact ⟨_, _, _, hcs⟩
          · simp only [List.cons.injEq, and_true] at hcs; exact ⟨_, _, _, hcs⟩
        obtain ⟨A11, m11, c11, rfl⟩ := f11
        obtain ⟨l11, r11, mc11, nz11⟩ := images_open (a := A11) (n := m11) (c := c11) (by simpa [Value.cells] using g11)
        have f12 : ∃ A m c, v12 = .slice A m c := by
          rcases Go.Deep.open_slice Tryz.underlying28 g12 with ⟨hcs, _⟩ | ⟨ad, l, cap, m, f1, D, Pl, hcs, _⟩
          · simp only [List.cons.injEq, and_true] at hcs; exact ⟨_, _, _, hcs⟩
          · simp only [List.cons.injEq, and_true] at hcs; exact ⟨_, _, _, hcs⟩
        obtain ⟨A12, m12, c12, rfl⟩ := f12
        obtain ⟨l12, r12, mc12, nz12⟩ := lives_open (a := A12) (n := m12) (c := c12) (by simpa [Value.cells] using g12)
        have f13 : ∃ A m c, v13 = .slice A m c := by
          rcases Go.Deep.open_slice Tryz.underlying29 g13 with ⟨hcs, _⟩ | ⟨ad, l, cap, m, f1, D, Pl, hcs, _⟩
          · simp only [List.cons.injEq, and_true] at hcs; exact ⟨_, _, _, hcs⟩
          · simp only [List.cons.injEq, and_true] at hcs; exact ⟨_, _, _, hcs⟩
        obtain ⟨A13, m13, c13, rfl⟩ := f13
        obtain ⟨l13, r13, mc13, nz13⟩ := dirty_open (a := A13) (n := m13) (c := c13) (by simpa [Value.cells] using g13)
        exact ⟨⟨q0, x1, x2, x3, x4, x5, x6, ⟨q7, q8, x9, A10, m10, c10, l10⟩, A11, m11, c11, l11, A12, m12, c12, l12, A13, m13, c13, l13, x14⟩, ⟨⟨b0.1, b0.2, by simp only; omega, by simp only; omega, by simp only; omega, by simp only; omega, by simp only; omega, by simp only; omega, ⟨r10, b7.1, b7.2, b8.1, b8.2, by simp only; omega, mc10, by simpa [maxLen] using ml10, nz10⟩, r11, r12, r13, by simp only; omega⟩, mc11, nz11, mc12, nz12, mc13, nz13⟩, rfl⟩
set_option maxRecDepth 100000 in
theorem record_open {H : Type} {enc : TypeId × Value → H} {W : World} {base : Nat} {v : Value} {d : DataW H} {p : List MemPlace}
    (hv : Value.okWide Tryz.prog W .any base 31 v) (h : DataW.Trod enc Tryz.prog W 0 (fun _ => true) true 31 v d p) : ∃ q : RV, q.Came W ∧ v = q.agg := by
  obtain ⟨cs, rfl, hsz⟩ := okWide_struct Tryz.underlying31 hv
  obtain ⟨f, hf⟩ := h
  obtain ⟨q, hq, he⟩ := record_open_ (cs := cs.toList) (by rw [Array.length_toList, hsz, cells31]) hf
  refine ⟨q, hq, ?_⟩
  have : cs = rcs q := by
    apply Array.toList_inj.1
    exact he
  rw [this]
  rfl
end Go.Proofs.YtdhgbkibbileiaaGreat
