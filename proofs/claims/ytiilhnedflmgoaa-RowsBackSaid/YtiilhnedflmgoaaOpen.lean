/-
  HOW A ROW OF VALUES AND A TEXT THAT COME IN ARE OPENED.
-/
import Derived.Test.YtiilhnedflmgoaaWalkT
import Derived.Deep.Slices
import Derived.ProofKit
import Derived.OpenShut
import Derived.ShutString
import Derived.ChangeOld
import Derived.Below
import Derived.SizedLaws
namespace Go.Proofs.Ytiilhnedflmgoaa
open Go.ChangeShapes Go.WideShapes Go.ChangeAt Go.RowKit

set_option maxRecDepth 100000 in
theorem own : ownKnob Try.prog.godebug = none := by kernel_rfl
set_option maxRecDepth 100000 in
theorem laidOut : laidOutB Try.prog = true := by kernel_rfl
set_option maxRecDepth 100000 in
theorem bytes45 : Try.prog.bytesOf 45 = 32 := by kernel_rfl
set_option maxRecDepth 100000 in
theorem cells45 : Try.prog.cellsOf 45 = 3 := by kernel_rfl
set_option maxRecDepth 100000 in
theorem cells4 : Try.prog.cellsOf 4 = 1 := by kernel_rfl
set_option maxRecDepth 100000 in
theorem bytes40 : Try.prog.bytesOf 40 = 32 := by kernel_rfl
set_option maxRecDepth 100000 in
theorem cells40 : Try.prog.cellsOf 40 = 3 := by kernel_rfl
set_option maxRecDepth 100000 in
theorem cells3 : Try.prog.cellsOf 3 = 1 := by kernel_rfl
set_option maxRecDepth 100000 in
theorem cells2 : Try.prog.cellsOf 2 = 1 := by kernel_rfl
set_option maxRecDepth 100000 in
theorem cells9 : Try.prog.cellsOf 9 = 1 := by kernel_rfl

/-- a row that comes in -/
def RowIn (w : World) (A : Option Addr) (n c : Nat) (vs : List V) : Prop := RV w A n vs ∧ n ≤ c ∧ (n + 1) * 32 ≤ 140737488355328
set_option maxRecDepth 100000 in
theorem list_of {P : Nat → V → Prop} (n : Nat) (h : ∀ i, i < n → ∃ it, P i it) : ∃ its : List V, its.length = n ∧ ∀ i it, its[i]? = some it → P i it := by
  induction n with
  | zero => exact ⟨[], rfl, fun i it hi => by simp at hi⟩
  | succ n ih =>
    obtain ⟨its, hl, hp⟩ := ih fun i hi => h i (by omega)
    obtain ⟨it, hit⟩ := h n (by omega)
    refine ⟨its ++ [it], by simp [hl], fun i it' hi => ?_⟩
    rcases Nat.lt_or_ge i its.length with hlt | hge
    · rw [List.getElem?_append_left hlt] at hi
      exact hp i it' hi
    · rw [List.getElem?_append_right hge] at hi
      have h0 : i - its.length = 0 := by
        rcases Nat.eq_zero_or_pos (i - its.length) with h0 | h0
        · exact h0
        · rw [List.getElem?_eq_none (by simp; omega)] at hi; cases hi
      rw [h0] at hi
      simp at hi
      subst hi
      obtain rfl : i = n := by omega
      exact hit

set_option maxRecDepth 100000 in
theorem row_open {H : Type} {enc : TypeId × Value → H} {W : World} {a : Option Addr} {n c : Nat} {d : DataW H} {p : List MemPlace}
    (h : DataW.Trod enc Try.prog W 0 (fun _ => true) true 28 (.slice a n c) d p)
    (hw : ∀ elems spare, d = .slice elems spare → (elems.length + spare.length) * Try.prog.bytesOf 40 ≤ reachBytes) : ∃ vs, RowIn W a n c vs := by
  obtain ⟨fuel, hf⟩ := h
  rcases Go.Deep.open_slice Try.underlying28 hf with ⟨hcs, hx⟩ | ⟨ad, l, cap, m, f1, D, Pl, hcs, _, hl, hm, hmm, hx, hi⟩
  · simp [Value.cells] at hcs
    obtain ⟨rfl, rfl, rfl⟩ := hcs
    exact ⟨[], ⟨rfl, by simp, by omega, fun h => absurd h (by omega)⟩, by omega, by omega⟩
  · simp [Value.cells] at hcs
    obtain ⟨rfl, rfl, rfl⟩ := hcs
    simp only [Prod.mk.injEq] at hx
    obtain ⟨hd, _⟩ := hx
    have hr := hw _ _ hd
    rw [bytes40] at hr
    simp only [if_true] at hmm
    subst hmm
    simp only [List.length_map, List.length_range, reachBytes] at hr
    have hn : (n + 1) * 32 ≤ 140737488355328 := by omega
    have key : ∀ i, i < n → ∃ it : V, VOk it ∧ W.cell? (ad.add (i * 3)) = some (.int .i64 it.k) ∧ W.cell? (ad.add (i * 3 + 1)) = some (.int .i64 it.n) ∧ W.cell? (ad.add (i * 3 + 2)) = some (.string it.s) := by
      intro i hin
      obtain ⟨cs', hc, ht⟩ := hi i (by omega)
      rw [cells40] at hc
      obtain ⟨ys, n', hn', hy, hlen, hyl, hfl⟩ := DataW.trod_struct Try.underlying40 ht
      obtain ⟨_, hcl, hat⟩ := World.cells?_some hc
      match cs', hcl with
      | [v0, v1, v2], _ =>
        match ys, hyl with
        | [y0, y1, y2], _ =>
          have g0 : DataW.trod enc Try.prog W 0 (fun _ => true) true n' 3 [v0] = some y0 := by
            have g := hfl 0 _ rfl
            simpa [cells3] using g
          have g1 : DataW.trod enc Try.prog W 0 (fun _ => true) true n' 2 [v1] = some y1 := by
            have g := hfl 1 _ rfl
            simpa [cells2] using g
          have g2 : DataW.trod enc Try.prog W 0 (fun _ => true) true n' 9 [v2] = some y2 := by
            have g := hfl 2 _ rfl
            simpa [cells9] using g
          obtain ⟨q0, e0, _, w0⟩ := DataW.trod_int Try.underlying3 g0
          obtain ⟨q1, e1, _, w1⟩ := DataW.trod_int Try.underlying2 g1
          obtain ⟨s2, e2, _, w2⟩ := DataW.trod_string Try.underlying9 g2
          simp only [List.cons.injEq, and_true] at e0 e1 e2
          subst e0 e1 e2
          have b1 : -9223372036854775808 ≤ q1 ∧ q1 ≤ 9223372036854775807 := by simpa [Lit.wf, IntKind.min, IntKind.max, IntKind.signed, IntKind.bits] using w1
          have c0 := hat 0 (by omega)
          have c1 := hat 1 (by omega)
          have c2 := hat 2 (by omega)
          simp only [add_of_add] at c0 c1 c2
          exact ⟨⟨q0, q1, s2⟩, ⟨⟨b1.1, b1.2⟩, w2⟩, by simpa using c0, by simpa using c1, by simpa using c2⟩
    obtain ⟨its, hlen, hits⟩ := list_of n key
    refine ⟨its, ⟨hlen, fun it hit => ?_, by omega, fun hpos => ?_⟩, hl, hn⟩
    · obtain ⟨i, hi⟩ := List.getElem?_of_mem hit
      exact (hits i it hi).1
    · obtain ⟨b, o, spot⟩ := ad
      obtain ⟨it0, _, h0, _⟩ := key 0 hpos
      have hspot : spot = none := by simpa [Addr.add] using World.cell?_spot h0
      subst hspot
      have hb := World.block_lt_of_cell? W _ h0
      rw [block_of_add] at hb
      refine ⟨b, o, rfl, hb, fun i it hi => ?_⟩
      obtain ⟨_, c0, c1, c2⟩ := hits i it hi
      have e : ∀ j, (⟨b, o, none⟩ : Addr).add j = ⟨b, o + j, none⟩ := fun j => by
        unfold Addr.add
        split
        · rename_i h0; rw [h0]; rfl
        · rfl
      simp only [e] at c0 c1 c2
      exact ⟨c0, c1, c2⟩
/-- a row that comes in -/
def ColsIn (w : World) (A : Option Addr) (n c : Nat) (vs : List C) : Prop := RC w A n vs ∧ n ≤ c ∧ (n + 1) * 32 ≤ 140737488355328
set_option maxRecDepth 100000 in
theorem listC_of {P : Nat → C → Prop} (n : Nat) (h : ∀ i, i < n → ∃ it, P i it) : ∃ its : List C, its.length = n ∧ ∀ i it, its[i]? = some it → P i it := by
  induction n with
  | zero => exact ⟨[], rfl, fun i it hi => by simp at hi⟩
  | succ n ih =>
    obtain ⟨its, hl, hp⟩ := ih fun i hi => h i (by omega)
    obtain ⟨it, hit⟩ := h n (by omega)
    refine ⟨its ++ [it], by simp [hl], fun i it' hi => ?_⟩
    rcases Nat.lt_or_ge i its.length with hlt | hge
    · rw [List.getElem?_append_left hlt] at hi
      exact hp i it' hi
    · rw [List.getElem?_append_right hge] at hi
      have h0 : i - its.length = 0 := by
        rcases Nat.eq_zero_or_pos (i - its.length) with h0 | h0
        · exact h0
        · rw [List.getElem?_eq_none (by simp; omega)] at hi; cases hi
      rw [h0] at hi
      simp at hi
      subst hi
      obtain rfl : i = n := by omega
      exact hit

set_option maxRecDepth 100000 in
theorem cols_open {H : Type} {enc : TypeId × Value → H} {W : World} {a : Option Addr} {n c : Nat} {d : DataW H} {p : List MemPlace}
    (h : DataW.Trod enc Try.prog W 0 (fun _ => true) true 22 (.slice a n c) d p)
    (hw : ∀ elems spare, d = .slice elems spare → (elems.length + spare.length) * Try.prog.bytesOf 45 ≤ reachBytes) : ∃ vs, ColsIn W a n c vs := by
  obtain ⟨fuel, hf⟩ := h
  rcases Go.Deep.open_slice Try.underlying22 hf with ⟨hcs, hx⟩ | ⟨ad, l, cap, m, f1, D, Pl, hcs, _, hl, hm, hmm, hx, hi⟩
  · simp [Value.cells] at hcs
    obtain ⟨rfl, rfl, rfl⟩ := hcs
    exact ⟨[], ⟨rfl, by simp, by omega, fun h => absurd h (by omega)⟩, by omega, by omega⟩
  · simp [Value.cells] at hcs
    obtain ⟨rfl, rfl, rfl⟩ := hcs
    simp only [Prod.mk.injEq] at hx
    obtain ⟨hd, _⟩ := hx
    have hr := hw _ _ hd
    rw [bytes45] at hr
    simp only [if_true] at hmm
    subst hmm
    simp only [List.length_map, List.length_range, reachBytes] at hr
    have hn : (n + 1) * 32 ≤ 140737488355328 := by omega
    have key : ∀ i, i < n → ∃ it : C, COk it ∧ W.cell? (ad.add (i * 3)) = some (.string it.nm) ∧ W.cell? (ad.add (i * 3 + 1)) = some (.int .i64 it.k) ∧ W.cell? (ad.add (i * 3 + 2)) = some (.bool it.nd) := by
      intro i hin
      obtain ⟨cs', hc, ht⟩ := hi i (by omega)
      rw [cells45] at hc
      obtain ⟨ys, n', hn', hy, hlen, hyl, hfl⟩ := DataW.trod_struct Try.underlying45 ht
      obtain ⟨_, hcl, hat⟩ := World.cells?_some hc
      match cs', hcl with
      | [v0, v1, v2], _ =>
        match ys, hyl with
        | [y0, y1, y2], _ =>
          have g0 : DataW.trod enc Try.prog W 0 (fun _ => true) true n' 9 [v0] = some y0 := by
            have g := hfl 0 _ rfl
            simpa [cells9] using g
          have g1 : DataW.trod enc Try.prog W 0 (fun _ => true) true n' 3 [v1] = some y1 := by
            have g := hfl 1 _ rfl
            simpa [cells9, cells3] using g
          have g2 : DataW.trod enc Try.prog W 0 (fun _ => true) true n' 4 [v2] = some y2 := by
            have g := hfl 2 _ rfl
            simpa [cells9, cells3, cells4] using g
          obtain ⟨s0, e0, _, w0⟩ := DataW.trod_string Try.underlying9 g0
          obtain ⟨q1, e1, _, _⟩ := DataW.trod_int Try.underlying3 g1
          obtain ⟨q2, e2, _⟩ := DataW.trod_bool Try.underlying4 g2
          simp only [List.cons.injEq, and_true] at e0 e1 e2
          subst e0 e1 e2
          have c0 := hat 0 (by omega)
          have c1 := hat 1 (by omega)
          have c2 := hat 2 (by omega)
          simp only [add_of_add] at c0 c1 c2
          exact ⟨⟨s0, q1, q2⟩, ⟨w0⟩, by simpa using c0, by simpa using c1, by simpa using c2⟩
    obtain ⟨its, hlen, hits⟩ := listC_of n key
    refine ⟨its, ⟨hlen, fun it hit => ?_, by omega, fun hpos => ?_⟩, hl, hn⟩
    · obtain ⟨i, hi⟩ := List.getElem?_of_mem hit
      exact (hits i it hi).1
    · obtain ⟨b, o, spot⟩ := ad
      obtain ⟨it0, _, h0, _⟩ := key 0 hpos
      have hspot : spot = none := by simpa [Addr.add] using World.cell?_spot h0
      subst hspot
      have hb := World.block_lt_of_cell? W _ h0
      rw [block_of_add] at hb
      refine ⟨b, o, rfl, hb, fun i it hi => ?_⟩
      obtain ⟨_, c0, c1, c2⟩ := hits i it hi
      have e : ∀ j, (⟨b, o, none⟩ : Addr).add j = ⟨b, o + j, none⟩ := fun j => by
        unfold Addr.add
        split
        · rename_i h0; rw [h0]; rfl
        · rfl
      simp only [e] at c0 c1 c2
      exact ⟨c0, c1, c2⟩
end Go.Proofs.Ytiilhnedflmgoaa
