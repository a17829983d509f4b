/-
  HOW STEPS, BYTES AND KEEPS THAT COME IN ARE OPENED.
-/
import Derived.Test.YtjblcligkgjbjaaWalkL
import Derived.Deep.Slices
import Derived.ProofKit
import Derived.OpenShut
import Derived.ShutString
import Derived.ChangeOld
import Derived.Below
import Derived.SizedLaws
namespace Go.Proofs.Ytjblcligkgjbjaa
open Go.ChangeShapes Go.WideShapes Go.ChangeAt Go.RowKit

set_option maxRecDepth 100000 in
theorem own : ownKnob Try.prog.godebug = none := by kernel_rfl
set_option maxRecDepth 100000 in
theorem laidOut : laidOutB Try.prog = true := by kernel_rfl
set_option maxRecDepth 100000 in
theorem bytes5 : Try.prog.bytesOf 5 = 1 := by kernel_rfl
set_option maxRecDepth 100000 in
theorem bytes36 : Try.prog.bytesOf 36 = 72 := by kernel_rfl
set_option maxRecDepth 100000 in
theorem cells36 : Try.prog.cellsOf 36 = 5 := by kernel_rfl
set_option maxRecDepth 100000 in
theorem cells3 : Try.prog.cellsOf 3 = 1 := by kernel_rfl
set_option maxRecDepth 100000 in
theorem cells33 : Try.prog.cellsOf 33 = 1 := by kernel_rfl
set_option maxRecDepth 100000 in
theorem cells34 : Try.prog.cellsOf 34 = 1 := by kernel_rfl
set_option maxRecDepth 100000 in
theorem cells4 : Try.prog.cellsOf 4 = 1 := by kernel_rfl

set_option maxRecDepth 100000 in
theorem bytes_open {H : Type} {enc : TypeId × Value → H} {W : World} {a : Option Addr} {n c : Nat} {f : Nat} {y : DataW H × List MemPlace}
    (hf : DataW.trod enc Try.prog W 0 (fun _ => true) true f 33 (Value.cells (.slice a n c)).toList = some y) : ∃ l, RB W (fun b => b < W.heap.size) a n l ∧ n ≤ c ∧ n ≤ maxLen := by
  rcases open_ints Try.underlying33 Try.underlying5 (by kernel_rfl) hf with ⟨hcs, hx⟩ | ⟨x, l, c', zs, hcs, _, hl, hm, hz, hx, hcell, hwz⟩
  · simp [Value.cells] at hcs
    obtain ⟨rfl, rfl, rfl⟩ := hcs
    exact ⟨[], RB.nil_, Nat.le_refl _, Nat.zero_le _⟩
  · simp [Value.cells] at hcs
    obtain ⟨rfl, rfl, rfl⟩ := hcs
    simp only [if_true] at hz
    have hbd : ∀ z ∈ zs, 0 ≤ z ∧ z ≤ 255 := fun z hz => by simpa [Lit.wf, IntKind.min, IntKind.max, IntKind.signed, IntKind.bits] using hwz z hz
    refine ⟨(zs.take n).map Int.toNat, ⟨by simp; omega, ?_, fun hn => ?_⟩, hl, by omega⟩
    · intro y hy
      simp only [List.mem_map] at hy
      obtain ⟨z, hz1, rfl⟩ := hy
      have := hbd z (List.mem_of_mem_take hz1)
      omega
    · have hb := World.block_lt_of_cell? W _ (hcell 0 (by omega))
      rw [block_of_add] at hb
      refine ⟨x, rfl, hb, hb, fun j hj => ?_⟩
      rw [hcell j (by omega)]
      have hjz : j < zs.length := by omega
      have := hbd zs[j] (List.getElem_mem hjz)
      have e1 : zs.getD j 0 = zs[j] := by simp [hjz]
      have e2 : ((zs.take n).map Int.toNat).getD j 0 = zs[j].toNat := by simp [hj, hjz]
      rw [e1, e2, Int.toNat_of_nonneg this.1]
set_option maxRecDepth 100000 in
theorem list_of {α : Type} {P : Nat → α → Prop} (n : Nat) (h : ∀ i, i < n → ∃ it, P i it) : ∃ its : List α, its.length = n ∧ ∀ i it, its[i]? = some it → P i it := by
  induction n with
  | zero => exact ⟨[], rfl, fun i it hi => by simp at hi⟩
  | succ n ih =>
    obtain ⟨its, hl, hp⟩ := ih fun i hi => h i (by omega)
    obtain ⟨it, hit⟩ := h n (by omega)
    refine ⟨its ++ [it], by simp [hl], fun i it' hi => ?_⟩
    rcases Nat.lt_or_ge i its.length with hlt | hge
    · rw [List.getElem?_append_left hlt] at hi
      exact hp i it' hi
    · rw [List.getElem?_append_right hge] at hi
      have h0 : i - its.length = 0 := by
        rcases Nat.eq_zero_or_pos (i - its.length) with h0 | h0
        · exact h0
        · rw [List.getElem?_eq_none (by simp; omega)] at hi; cases hi
      rw [h0] at hi
      simp at hi
      subst hi
      obtain rfl : i = n := by omega
      exact hit
set_option maxRecDepth 100000 in
theorem bools_open {H : Type} {enc : TypeId × Value → H} {W : World} {a : Option Addr} {n c : Nat} {f : Nat} {y : DataW H × List MemPlace}
    (hf : DataW.trod enc Try.prog W 0 (fun _ => true) true f 34 (Value.cells (.slice a n c)).toList = some y) : ∃ l, KB W (fun b => b < W.heap.size) a n l ∧ n ≤ c := by
  rcases Go.Deep.open_slice Try.underlying34 hf with ⟨hcs, hx⟩ | ⟨ad, l, cap, m, f1, D, Pl, hcs, _, hl, hm, hmm, hx, hi⟩
  · simp [Value.cells] at hcs
    obtain ⟨rfl, rfl, rfl⟩ := hcs
    exact ⟨[], KB.nil_, Nat.le_refl _⟩
  · simp [Value.cells] at hcs
    obtain ⟨rfl, rfl, rfl⟩ := hcs
    simp only [if_true] at hmm
    subst hmm
    have key : ∀ i, i < n → ∃ x : Bool, W.cell? (ad.add i) = some (.bool x) := by
      intro i hin
      obtain ⟨cs', hc, ht⟩ := hi i (by omega)
      rw [cells4] at hc
      obtain ⟨_, hcl, hat⟩ := World.cells?_some hc
      match cs', hcl with
      | [v0], _ =>
        obtain ⟨x, e, _⟩ := DataW.trod_bool Try.underlying4 ht
        simp only [List.cons.injEq, and_true] at e
        subst e
        have c0 := hat 0 (by omega)
        simp only [add_of_add, Nat.mul_one, Nat.add_zero] at c0
        exact ⟨x, by simpa using c0⟩
    obtain ⟨xs, hlen, hxs⟩ := list_of n key
    refine ⟨xs, ⟨hlen, fun hn => ?_⟩, hl⟩
    obtain ⟨x0, h0⟩ := key 0 hn
    have hb := World.block_lt_of_cell? W _ h0
    rw [block_of_add] at hb
    refine ⟨ad, rfl, hb, hb, fun j hj => ?_⟩
    have hjl : j < xs.length := by omega
    rw [hxs j xs[j] (by simp [hjl])]
    simp [hjl]
set_option maxRecDepth 100000 in
theorem steps_open {H : Type} {enc : TypeId × Value → H} {W : World} {a : Option Addr} {n c : Nat} {d : DataW H} {p : List MemPlace}
    (h : DataW.Trod enc Try.prog W 0 (fun _ => true) true 22 (.slice a n c) d p)
    (hw : ∀ elems spare, d = .slice elems spare → (elems.length + spare.length) * Try.prog.bytesOf 36 ≤ reachBytes) : ∃ l, Sts W W.heap.size a n l ∧ n ≤ 140737488351232 := by
  obtain ⟨fuel, hf⟩ := h
  rcases Go.Deep.open_slice Try.underlying22 hf with ⟨hcs, hx⟩ | ⟨ad, l, cap, m, f1, D, Pl, hcs, _, hl, hm, hmm, hx, hi⟩
  · simp [Value.cells] at hcs
    obtain ⟨rfl, rfl, rfl⟩ := hcs
    exact ⟨[], ⟨rfl, by simp, fun h => absurd h (by omega)⟩, by omega⟩
  · simp [Value.cells] at hcs
    obtain ⟨rfl, rfl, rfl⟩ := hcs
    simp only [Prod.mk.injEq] at hx
    obtain ⟨hd, _⟩ := hx
    have hr := hw _ _ hd
    rw [bytes36] at hr
    simp only [if_true] at hmm
    subst hmm
    simp only [List.length_map, List.length_range, reachBytes] at hr
    have hn : n ≤ 140737488351232 := by omega
    have key : ∀ i, i < n → ∃ s : St, s.In W W.heap.size ∧ W.cell? (ad.add (i * 5)) = some (.int .i64 s.k) ∧ W.cell? (ad.add (i * 5 + 1)) = some (.int .i64 s.a) ∧ W.cell? (ad.add (i * 5 + 2)) = some (.slice s.A s.m s.c) ∧
        W.cell? (ad.add (i * 5 + 3)) = some (.int .i64 s.n) ∧ W.cell? (ad.add (i * 5 + 4)) = some (.slice s.K s.q s.r) := by
      intro i hin
      obtain ⟨cs', hc, ht⟩ := hi i (by omega)
      rw [cells36] at hc
      obtain ⟨ys, n', hn', hy, hlen, hyl, hfl⟩ := DataW.trod_struct Try.underlying36 ht
      obtain ⟨_, hcl, hat⟩ := World.cells?_some hc
      match cs', hcl with
      | [v0, v1, v2, v3, v4], _ =>
        match ys, hyl with
        | [y0, y1, y2, y3, y4], _ =>
          have g0 : DataW.trod enc Try.prog W 0 (fun _ => true) true n' 3 [v0] = some y0 := by
            have g := hfl 0 _ rfl
            simpa [cells3] using g
          have g1 : DataW.trod enc Try.prog W 0 (fun _ => true) true n' 3 [v1] = some y1 := by
            have g := hfl 1 _ rfl
            simpa [cells3] using g
          have g2 : DataW.trod enc Try.prog W 0 (fun _ => true) true n' 33 [v2] = some y2 := by
            have g := hfl 2 _ rfl
            simpa [cells33] using g
          have g3 : DataW.trod enc Try.prog W 0 (fun _ => true) true n' 3 [v3] = some y3 := by
            have g := hfl 3 _ rfl
            simpa [cells3] using g
          have g4 : DataW.trod enc Try.prog W 0 (fun _ => true) true n' 34 [v4] = some y4 := by
            have g := hfl 4 _ rfl
            simpa [cells34] using g
          obtain ⟨q0, e0, _, w0⟩ := DataW.trod_int Try.underlying3 g0
          obtain ⟨q1, e1, _, w1⟩ := DataW.trod_int Try.underlying3 g1
          obtain ⟨q3, e3, _, w3⟩ := DataW.trod_int Try.underlying3 g3
          simp only [List.cons.injEq, and_true] at e0 e1 e3
          subst e0 e1 e3
          have b3 : -9223372036854775808 ≤ q3 ∧ q3 ≤ 9223372036854775807 := by simpa [Lit.wf, IntKind.min, IntKind.max, IntKind.signed, IntKind.bits] using w3
          have f2 : ∃ A m c, v2 = .slice A m c := by
            rcases Go.Deep.open_slice Try.underlying33 g2 with ⟨hcs, _⟩ | ⟨ad, l, cap, m, f1, D, Pl, hcs, _⟩
            · simp only [List.cons.injEq, and_true] at hcs; exact ⟨_, _, _, hcs⟩
            · simp only [List.cons.injEq, and_true] at hcs; exact ⟨_, _, _, hcs⟩
          have f4 : ∃ A m c, v4 = .slice A m c := by
            rcases Go.Deep.open_slice Try.underlying34 g4 with ⟨hcs, _⟩ | ⟨ad, l, cap, m, f1, D, Pl, hcs, _⟩
            · simp only [List.cons.injEq, and_true] at hcs; exact ⟨_, _, _, hcs⟩
            · simp only [List.cons.injEq, and_true] at hcs; exact ⟨_, _, _, hcs⟩
          obtain ⟨A2, m2, c2, rfl⟩ := f2
          obtain ⟨A4, m4, c4, rfl⟩ := f4
          obtain ⟨l2, r2, _, _⟩ := bytes_open (a := A2) (n := m2) (c := c2) (by simpa [Value.cells] using g2)
          obtain ⟨l4, r4, _⟩ := bools_open (a := A4) (n := m4) (c := c4) (by simpa [Value.cells] using g4)
          have k0 := hat 0 (by omega)
          have k1 := hat 1 (by omega)
          have k2 := hat 2 (by omega)
          have k3 := hat 3 (by omega)
          have k4 := hat 4 (by omega)
          simp only [add_of_add] at k0 k1 k2 k3 k4
          exact ⟨⟨q0, q1, A2, m2, c2, l2, q3, A4, m4, c4, l4⟩, ⟨r2, r4, b3.2, b3.1⟩, by simpa using k0, by simpa using k1, by simpa using k2, by simpa using k3, by simpa using k4⟩
    obtain ⟨its, hlen, hits⟩ := list_of n key
    refine ⟨its, ⟨hlen, fun it hit => ?_, fun hpos => ?_⟩, hn⟩
    · obtain ⟨i, hi⟩ := List.getElem?_of_mem hit
      exact (hits i it hi).1
    · obtain ⟨b, o, spot⟩ := ad
      obtain ⟨it0, _, h0, _⟩ := key 0 hpos
      have hspot : spot = none := by simpa [Addr.add] using World.cell?_spot h0
      subst hspot
      have hb := World.block_lt_of_cell? W _ h0
      rw [block_of_add] at hb
      refine ⟨b, o, rfl, hb, fun i it hi => ?_⟩
      obtain ⟨_, c0, c1, c2, c3, c4⟩ := hits i it hi
      have e : ∀ j, (⟨b, o, none⟩ : Addr).add j = ⟨b, o + j, none⟩ := fun j => Addr.add_mid b o j
      simp only [e, ← Nat.add_assoc] at c0 c1 c2 c3 c4
      exact ⟨c0, c1, c2, c3, c4⟩
/-- bytes that come in -/
def In (w : World) (A : Option Addr) (n c : Nat) (l : List Nat) : Prop := RB w (fun b => b < w.heap.size) A n l ∧ n ≤ c ∧ n ≤ 140737488351232
set_option maxRecDepth 100000 in
theorem in_open {H : Type} {enc : TypeId × Value → H} {W : World} {a : Option Addr} {n c : Nat} {d : DataW H} {p : List MemPlace}
    (h : DataW.Trod enc Try.prog W 0 (fun _ => true) true 33 (.slice a n c) d p)
    (hw : ∀ elems spare, d = .slice elems spare → (elems.length + spare.length) * Try.prog.bytesOf 5 ≤ reachBytes) : ∃ l, In W a n c l := by
  obtain ⟨fuel, hf⟩ := h
  obtain ⟨l, h1, h2, _⟩ := bytes_open (a := a) (n := n) (c := c) hf
  refine ⟨l, h1, h2, ?_⟩
  rcases open_ints Try.underlying33 Try.underlying5 (by kernel_rfl) hf with ⟨hcs, hx⟩ | ⟨x, l, c', zs, hcs, _, hl, hm, hz, hx, hcell, hwz⟩
  · simp [Value.cells] at hcs
    omega
  · simp [Value.cells] at hcs
    obtain ⟨rfl, rfl, rfl⟩ := hcs
    simp only [Prod.mk.injEq] at hx
    obtain ⟨hd, _⟩ := hx
    have hr := hw _ _ hd
    rw [bytes5] at hr
    simp only [if_true] at hz
    simp only [lits, List.length_map, List.length_take, List.length_drop, reachBytes] at hr
    omega
set_option maxRecDepth 100000 in
theorem keeps_open {H : Type} {enc : TypeId × Value → H} {W : World} {a : Option Addr} {n c : Nat} {d : DataW H} {p : List MemPlace}
    (h : DataW.Trod enc Try.prog W 0 (fun _ => true) true 34 (.slice a n c) d p) : ∃ l, KB W (fun b => b < W.heap.size) a n l ∧ n ≤ c := by
  obtain ⟨fuel, hf⟩ := h
  exact bools_open (a := a) (n := n) (c := c) hf
end Go.Proofs.Ytjblcligkgjbjaa
