/-
STAGE 8: how trees that come in are opened.
-/
import Derived.Test.YtcajidlekfkjlaaIVs
import Derived.Test.YtcajidlekfkjlaaND
import Derived.Deep.Slices
import Derived.ProofKit
import Derived.OpenShut
import Derived.ShutString
import Derived.ChangeOld
import Derived.Below
import Derived.SizedLaws
import Derived.Lib.SmallJoins
namespace Go.Proofs.Ytcajidlekfkjlaa
open Go.ChangeShapes Go.WideShapes Go.ChangeAt Go.RowKit

set_option maxRecDepth 100000 in
theorem own : ownKnob Try.prog.godebug = none := by kernel_rfl
set_option maxRecDepth 100000 in
theorem laidOut : laidOutB Try.prog = true := by kernel_rfl
set_option maxRecDepth 100000 in
theorem bytes5 : Try.prog.bytesOf 5 = 1 := by kernel_rfl
set_option maxRecDepth 100000 in
theorem cells3 : Try.prog.cellsOf 3 = 1 := by kernel_rfl
set_option maxRecDepth 100000 in
theorem cells4 : Try.prog.cellsOf 4 = 1 := by kernel_rfl
set_option maxRecDepth 100000 in
theorem cells49 : Try.prog.cellsOf 49 = 1 := by kernel_rfl
set_option maxRecDepth 100000 in
theorem cells23 : Try.prog.cellsOf 23 = 1 := by kernel_rfl
set_option maxRecDepth 100000 in
theorem cells46 : Try.prog.cellsOf 46 = 1 := by kernel_rfl
set_option maxRecDepth 100000 in
theorem cells22 : Try.prog.cellsOf 22 = 1 := by kernel_rfl
set_option maxRecDepth 100000 in
theorem cells42 : Try.prog.cellsOf 42 = 1 := by kernel_rfl
set_option maxRecDepth 100000 in
theorem cells51 : Try.prog.cellsOf 51 = 4 := by kernel_rfl
set_option maxRecDepth 100000 in
theorem cells54 : Try.prog.cellsOf 54 = 5 := by kernel_rfl
set_option maxRecDepth 100000 in
theorem cells48 : Try.prog.cellsOf 48 = 3 := by kernel_rfl
set_option maxRecDepth 100000 in
theorem bytes_open {H : Type} {enc : TypeId × Value → H} {W : World} {a : Option Addr} {n c : Nat} {f : Nat} {y : DataW H × List MemPlace}
    (hf : DataW.trod enc Try.prog W 0 (fun _ => true) true f 46 (Value.cells (.slice a n c)).toList = some y) : ∃ l, RB W All a n l ∧ n ≤ c ∧ n ≤ maxLen ∧ (a = none → c = 0) := by
  rcases open_ints Try.underlying46 Try.underlying5 (by kernel_rfl) hf with ⟨hcs, hx⟩ | ⟨x, l, c', zs, hcs, _, hl, hm, hz, hx, hcell, hwz⟩
  · simp [Value.cells] at hcs
    obtain ⟨rfl, rfl, rfl⟩ := hcs
    exact ⟨[], RB.nil_, Nat.le_refl _, Nat.zero_le _, fun _ => rfl⟩
  · simp [Value.cells] at hcs
    obtain ⟨rfl, rfl, rfl⟩ := hcs
    simp only [if_true] at hz
    have hbd : ∀ z ∈ zs, 0 ≤ z ∧ z ≤ 255 := fun z hz => by simpa [Lit.wf, IntKind.min, IntKind.max, IntKind.signed, IntKind.bits] using hwz z hz
    refine ⟨(zs.take n).map Int.toNat, ⟨by simp; omega, ?_, fun hn => ?_⟩, hl, by omega, fun e => by cases e⟩
    · intro y hy
      simp only [List.mem_map] at hy
      obtain ⟨z, hz1, rfl⟩ := hy
      have := hbd z (List.mem_of_mem_take hz1)
      omega
    · have hb := World.block_lt_of_cell? W _ (hcell 0 (by omega))
      rw [block_of_add] at hb
      refine ⟨x, rfl, hb, trivial, fun j hj => ?_⟩
      rw [hcell j (by omega)]
      have hjz : j < zs.length := by omega
      have := hbd zs[j] (List.getElem_mem hjz)
      have e1 : zs.getD j 0 = zs[j] := by simp [hjz]
      have e2 : ((zs.take n).map Int.toNat).getD j 0 = zs[j].toNat := by simp [hj, hjz]
      rw [e1, e2, Int.toNat_of_nonneg this.1]
set_option maxRecDepth 100000 in
theorem list_of {α : Type} {P : Nat → α → Prop} (n : Nat) (h : ∀ i, i < n → ∃ it, P i it) : ∃ its : List α, its.length = n ∧ ∀ i it, its[i]? = some it → P i it := by
  induction n with
  | zero => exact ⟨[], rfl, fun i it hi => by simp at hi⟩
  | succ n ih =>
    obtain ⟨its, hl, hp⟩ := ih fun i hi => h i (by omega)
    obtain ⟨it, hit⟩ := h n (by omega)
    refine ⟨its ++ [it], by simp [hl], fun i it' hi => ?_⟩
    rcases Nat.lt_or_ge i its.length with hlt | hge
    · rw [List.getElem?_append_left hlt] at hi
      exact hp i it' hi
    · rw [List.getElem?_append_right hge] at hi
      have h0 : i - its.length = 0 := by
        rcases Nat.eq_zero_or_pos (i - its.length) with h0 | h0
        · exact h0
        · rw [List.getElem?_eq_none (by simp; omega)] at hi; cases hi
      rw [h0] at hi
      simp at hi
      subst hi
      obtain rfl : i = n := by omega
      exact hit
set_option maxHeartbeats 2000000 in
set_option maxRecDepth 100000 in
theorem cells_open {H : Type} {enc : TypeId × Value → H} {W : World} {a : Option Addr} {n c : Nat} {f : Nat} {y : DataW H × List MemPlace}
    (hf : DataW.trod enc Try.prog W 0 (fun _ => true) true f 42 (Value.cells (.slice a n c)).toList = some y) : ∃ l, CR W All All a n l ∧ n ≤ c ∧ (a = none → c = 0) := by
  rcases Go.Deep.open_slice Try.underlying42 hf with ⟨hcs, hx⟩ | ⟨ad, l, cap, m, f1, D, Pl, hcs, _, hl, hm, hmm, hx, hi⟩
  · simp [Value.cells] at hcs
    obtain ⟨rfl, rfl, rfl⟩ := hcs
    exact ⟨[], ⟨rfl, (fun x hx => by cases hx), Nat.zero_le _, fun h => absurd h (by omega)⟩, Nat.le_refl _, fun _ => rfl⟩
  · simp [Value.cells] at hcs
    obtain ⟨rfl, rfl, rfl⟩ := hcs
    simp only [if_true] at hmm
    subst hmm
    have key : ∀ i, i < n → ∃ s : CV, s.In W All ∧ W.cell? (ad.add (i * 3)) = some (.bool s.u) ∧ W.cell? (ad.add (i * 3 + 1)) = some (.int .u32 (s.k : Int)) ∧ W.cell? (ad.add (i * 3 + 2)) = some (.slice s.A s.m s.c) := by
      intro i hin
      obtain ⟨cs', hc, ht⟩ := hi i (by omega)
      rw [cells48] at hc
      obtain ⟨ys, n', hn', hy, hlen, hyl, hfl⟩ := DataW.trod_struct Try.underlying48 ht
      obtain ⟨_, hcl, hat⟩ := World.cells?_some hc
      match cs', hcl with
      | [v0, v1, v2], _ =>
        match ys, hyl with
        | [y0, y1, y2], _ =>
          have g0 : DataW.trod enc Try.prog W 0 (fun _ => true) true n' 4 [v0] = some y0 := by
            have g := hfl 0 _ rfl
            simpa [cells3, cells4, cells49, cells23, cells46, cells22, cells42, cells48, cells51] using g
          have g1 : DataW.trod enc Try.prog W 0 (fun _ => true) true n' 23 [v1] = some y1 := by
            have g := hfl 1 _ rfl
            simpa [cells3, cells4, cells49, cells23, cells46, cells22, cells42, cells48, cells51] using g
          have g2 : DataW.trod enc Try.prog W 0 (fun _ => true) true n' 46 [v2] = some y2 := by
            have g := hfl 2 _ rfl
            simpa [cells3, cells4, cells49, cells23, cells46, cells22, cells42, cells48, cells51] using g
          obtain ⟨q0, e0, _⟩ := DataW.trod_bool Try.underlying4 g0
          obtain ⟨q1, e1, _, w1⟩ := DataW.trod_int Try.underlying23 g1
          simp only [List.cons.injEq, and_true] at e0 e1
          subst e0 e1
          have b1 : 0 ≤ q1 ∧ q1 ≤ 4294967295 := by simpa [Lit.wf, IntKind.min, IntKind.max, IntKind.signed, IntKind.bits] using w1
          obtain ⟨x1, rfl⟩ := Int.eq_ofNat_of_zero_le b1.1
          have f2 : ∃ A m c, v2 = .slice A m c := by
            rcases Go.Deep.open_slice Try.underlying46 g2 with ⟨hcs, _⟩ | ⟨ad, l, cap, m, f1, D, Pl, hcs, _⟩
            · simp only [List.cons.injEq, and_true] at hcs; exact ⟨_, _, _, hcs⟩
            · simp only [List.cons.injEq, and_true] at hcs; exact ⟨_, _, _, hcs⟩
          obtain ⟨A2, m2, c2, rfl⟩ := f2
          obtain ⟨l2, r2, mc2, ml2, nz2⟩ := bytes_open (a := A2) (n := m2) (c := c2) (by simpa [Value.cells] using g2)
          have k0 := hat 0 (by omega)
          have k1 := hat 1 (by omega)
          have k2 := hat 2 (by omega)
          simp only [add_of_add] at k0 k1 k2
          exact ⟨⟨q0, x1, A2, m2, c2, l2⟩, ⟨r2, by simp only; omega, mc2, by simpa [maxLen] using ml2, nz2⟩, by simpa using k0, by simpa using k1, by simpa using k2⟩
    obtain ⟨its, hlen, hits⟩ := list_of n key
    refine ⟨its, ⟨hlen, fun it hit => ?_, by simp only [maxLen] at hm; omega, fun hpos => ?_⟩, hl, fun e => by cases e⟩
    · obtain ⟨i, hi⟩ := List.getElem?_of_mem hit
      exact (hits i it hi).1
    · obtain ⟨b, o, spot⟩ := ad
      obtain ⟨it0, _, h0, _⟩ := key 0 hpos
      have hspot : spot = none := by simpa [Addr.add] using World.cell?_spot h0
      subst hspot
      have hb := World.block_lt_of_cell? W _ h0
      rw [block_of_add] at hb
      refine ⟨b, o, rfl, hb, trivial, fun i it hi => ?_⟩
      obtain ⟨_, c0, c1, c2⟩ := hits i it hi
      have e : ∀ j, (⟨b, o, none⟩ : Addr).add j = ⟨b, o + j, none⟩ := fun j => Addr.add_mid b o j
      simp only [e, ← Nat.add_assoc] at c0 c1 c2
      exact ⟨c0, c1, c2⟩
set_option maxHeartbeats 2000000 in
set_option maxRecDepth 100000 in
theorem images_open {H : Type} {enc : TypeId × Value → H} {W : World} {a : Option Addr} {n c : Nat} {f : Nat} {y : DataW H × List MemPlace}
    (hf : DataW.trod enc Try.prog W 0 (fun _ => true) true f 22 (Value.cells (.slice a n c)).toList = some y) : ∃ l, IVR W All a n l ∧ n ≤ c ∧ (a = none → c = 0) := by
  rcases Go.Deep.open_slice Try.underlying22 hf with ⟨hcs, hx⟩ | ⟨ad, l, cap, m, f1, D, Pl, hcs, _, hl, hm, hmm, hx, hi⟩
  · simp [Value.cells] at hcs
    obtain ⟨rfl, rfl, rfl⟩ := hcs
    exact ⟨[], ⟨rfl, (fun x hx => by cases hx), Nat.zero_le _, fun h => absurd h (by omega)⟩, Nat.le_refl _, fun _ => rfl⟩
  · simp [Value.cells] at hcs
    obtain ⟨rfl, rfl, rfl⟩ := hcs
    simp only [if_true] at hmm
    subst hmm
    have key : ∀ i, i < n → ∃ s : IV, s.In W All ∧ W.cell? (ad.add (i * 5)) = some (.int .u32 (s.t : Int)) ∧ W.cell? (ad.add (i * 5 + 1)) = some (.int .i64 s.p.k) ∧ W.cell? (ad.add (i * 5 + 2)) = some (.int .u64 (s.p.s : Int)) ∧ W.cell? (ad.add (i * 5 + 3)) = some (.int .u32 (s.p.x : Int)) ∧ W.cell? (ad.add (i * 5 + 4)) = some (.slice s.p.A s.p.n s.p.c) := by
      intro i hin
      obtain ⟨cs', hc, ht⟩ := hi i (by omega)
      rw [cells54] at hc
      obtain ⟨ys, n', hn', hy, hlen, hyl, hfl⟩ := DataW.trod_struct Try.underlying54 ht
      obtain ⟨_, hcl, hat⟩ := World.cells?_some hc
      match cs', hcl with
      | [v0, v1, v2, v3, v4], _ =>
        match ys, hyl with
        | [y0, yp], _ =>
          have g0 : DataW.trod enc Try.prog W 0 (fun _ => true) true n' 23 [v0] = some y0 := by
            have g := hfl 0 _ rfl
            simpa [cells3, cells4, cells49, cells23, cells46, cells22, cells42, cells48, cells51] using g
          have gp : DataW.trod enc Try.prog W 0 (fun _ => true) true n' 51 [v1, v2, v3, v4] = some yp := by
            have g := hfl 1 _ rfl
            simpa [cells3, cells4, cells49, cells23, cells46, cells22, cells42, cells48, cells51] using g
          obtain ⟨ys2, n2, hn2, hy2, hlen2, hyl2, hfl2⟩ := DataW.trod_struct Try.underlying51 gp
          match ys2, hyl2 with
          | [y1, y2, y3, y4], _ =>
            have g1 : DataW.trod enc Try.prog W 0 (fun _ => true) true n2 3 [v1] = some y1 := by
              have g := hfl2 0 _ rfl
              simpa [cells3, cells4, cells49, cells23, cells46, cells22, cells42, cells48, cells51] using g
            have g2 : DataW.trod enc Try.prog W 0 (fun _ => true) true n2 49 [v2] = some y2 := by
              have g := hfl2 1 _ rfl
              simpa [cells3, cells4, cells49, cells23, cells46, cells22, cells42, cells48, cells51] using g
            have g3 : DataW.trod enc Try.prog W 0 (fun _ => true) true n2 23 [v3] = some y3 := by
              have g := hfl2 2 _ rfl
              simpa [cells3, cells4, cells49, cells23, cells46, cells22, cells42, cells48, cells51] using g
            have g4 : DataW.trod enc Try.prog W 0 (fun _ => true) true n2 42 [v4] = some y4 := by
              have g := hfl2 3 _ rfl
              simpa [cells3, cells4, cells49, cells23, cells46, cells22, cells42, cells48, cells51] using g
            obtain ⟨q0, e0, _, w0⟩ := DataW.trod_int Try.underlying23 g0
            obtain ⟨q1, e1, _, w1⟩ := DataW.trod_int Try.underlying3 g1
            obtain ⟨q2, e2, _, w2⟩ := DataW.trod_int Try.underlying49 g2
            obtain ⟨q3, e3, _, w3⟩ := DataW.trod_int Try.underlying23 g3
            simp only [List.cons.injEq, and_true] at e0 e1 e2 e3
            subst e0 e1 e2 e3
            have b0 : 0 ≤ q0 ∧ q0 ≤ 4294967295 := by simpa [Lit.wf, IntKind.min, IntKind.max, IntKind.signed, IntKind.bits] using w0
            have b1 : -9223372036854775808 ≤ q1 ∧ q1 ≤ 9223372036854775807 := by simpa [Lit.wf, IntKind.min, IntKind.max, IntKind.signed, IntKind.bits] using w1
            have b2 : 0 ≤ q2 ∧ q2 ≤ 18446744073709551615 := by simpa [Lit.wf, IntKind.min, IntKind.max, IntKind.signed, IntKind.bits] using w2
            have b3 : 0 ≤ q3 ∧ q3 ≤ 4294967295 := by simpa [Lit.wf, IntKind.min, IntKind.max, IntKind.signed, IntKind.bits] using w3
            obtain ⟨x0, rfl⟩ := Int.eq_ofNat_of_zero_le b0.1
            obtain ⟨x2, rfl⟩ := Int.eq_ofNat_of_zero_le b2.1
            obtain ⟨x3, rfl⟩ := Int.eq_ofNat_of_zero_le b3.1
            have f4 : ∃ A m c, v4 = .slice A m c := by
              rcases Go.Deep.open_slice Try.underlying42 g4 with ⟨hcs, _⟩ | ⟨ad, l, cap, m, f1, D, Pl, hcs, _⟩
              · simp only [List.cons.injEq, and_true] at hcs; exact ⟨_, _, _, hcs⟩
              · simp only [List.cons.injEq, and_true] at hcs; exact ⟨_, _, _, hcs⟩
            obtain ⟨A4, m4, c4, rfl⟩ := f4
            obtain ⟨l4, r4, mc4, nz4⟩ := cells_open (a := A4) (n := m4) (c := c4) (by simpa [Value.cells] using g4)
            have k0 := hat 0 (by omega)
            have k1 := hat 1 (by omega)
            have k2 := hat 2 (by omega)
            have k3 := hat 3 (by omega)
            have k4 := hat 4 (by omega)
            simp only [add_of_add] at k0 k1 k2 k3 k4
            exact ⟨⟨x0, ⟨q1, x2, x3, A4, m4, c4, l4⟩⟩, ⟨by simp only; omega, ⟨r4, mc4, nz4, b1.1, b1.2, by simp only; omega, by simp only; omega⟩⟩, by simpa using k0, by simpa using k1, by simpa using k2, by simpa using k3, by simpa using k4⟩
    obtain ⟨its, hlen, hits⟩ := list_of n key
    refine ⟨its, ⟨hlen, fun it hit => ?_, by simp only [maxLen] at hm; omega, fun hpos => ?_⟩, hl, fun e => by cases e⟩
    · obtain ⟨i, hi⟩ := List.getElem?_of_mem hit
      exact (hits i it hi).1
    · obtain ⟨b, o, spot⟩ := ad
      obtain ⟨it0, _, h0, _⟩ := key 0 hpos
      have hspot : spot = none := by simpa [Addr.add] using World.cell?_spot h0
      subst hspot
      have hb := World.block_lt_of_cell? W _ h0
      rw [block_of_add] at hb
      refine ⟨b, o, rfl, hb, trivial, fun i it hi => ?_⟩
      obtain ⟨_, c0, c1, c2, c3, c4⟩ := hits i it hi
      have e : ∀ j, (⟨b, o, none⟩ : Addr).add j = ⟨b, o + j, none⟩ := fun j => Addr.add_mid b o j
      simp only [e, ← Nat.add_assoc] at c0 c1 c2 c3 c4
      exact ⟨c0, c1, c2, c3, c4⟩
set_option maxRecDepth 100000 in
theorem cells24 : Try.prog.cellsOf 24 = 1 := by kernel_rfl
set_option maxRecDepth 100000 in
theorem cells26 : Try.prog.cellsOf 26 = 3 := by kernel_rfl
set_option maxRecDepth 100000 in
theorem tree_open {H : Type} {enc : TypeId × Value → H} {W : World} {base : Nat} {v : Value} {d : DataW H} {p : List MemPlace}
    (hv : Value.okWide Try.prog W .any base 26 v) (h : DataW.Trod enc Try.prog W 0 (fun _ => true) true 26 v d p) : ∃ t : TV, t.In W All ∧ v = t.agg := by
  obtain ⟨v0, v1, v2, y0, y1, y2, n, rfl, _, _, g0, g1, g2⟩ := Go.Joins.open_agg3 Try.underlying26 (by kernel_rfl) cells26 hv h
  obtain ⟨q1, e1, _, w1⟩ := DataW.trod_int Try.underlying23 g1
  obtain ⟨q2, e2, _, w2⟩ := DataW.trod_int Try.underlying24 g2
  simp only [List.cons.injEq, and_true] at e1 e2
  subst e1 e2
  have b1 : 0 ≤ q1 ∧ q1 ≤ 4294967295 := by simpa [Lit.wf, IntKind.min, IntKind.max, IntKind.signed, IntKind.bits] using w1
  have b2 : -9223372036854775808 ≤ q2 ∧ q2 ≤ 9223372036854775807 := by simpa [Lit.wf, IntKind.min, IntKind.max, IntKind.signed, IntKind.bits] using w2
  have f0 : ∃ A m c, v0 = .slice A m c := by
    rcases Go.Deep.open_slice Try.underlying22 g0 with ⟨hcs, _⟩ | ⟨ad, l, cap, m, f1, D, Pl, hcs, _⟩
    · simp only [List.cons.injEq, and_true] at hcs; exact ⟨_, _, _, hcs⟩
    · simp only [List.cons.injEq, and_true] at hcs; exact ⟨_, _, _, hcs⟩
  obtain ⟨A, m, c, rfl⟩ := f0
  obtain ⟨l, hr, hnc, hnz⟩ := images_open (a := A) (n := m) (c := c) (by simpa [Value.cells] using g0)
  obtain ⟨x1, rfl⟩ := Int.eq_ofNat_of_zero_le b1.1
  exact ⟨⟨A, m, c, l, x1, q2⟩, ⟨hr, by simp only; omega, hnc, hnz, b2.1, b2.2⟩, rfl⟩
end Go.Proofs.Ytcajidlekfkjlaa
