/-
HOW ACTS THAT COME IN ARE OPENED; what the row's list gives; a world for the witness.
-/
import Derived.Test.YtlblgfpafdfilaaDoorMB
import Derived.Test.YtlblgfpafdfilaaDoorCards
import Derived.Test.YtlblgfpafdfilaaDoorTie
import Derived.ProofKit
import Derived.OpenShut
import Derived.ShutString
import Derived.ChangeOld
import Derived.Below
import Derived.SizedLaws
import Derived.Lay
import Derived.Shelf.Vars
import Derived.Lib.SmallJoins
import Derived.Lib.LaidTab
import Derived.Deep.Slices
import Derived.Deep.DeepHandedRow
import Derived.Deep.DeepWitnessRowRef
import Derived.Stop.LaidErr
namespace Go.Proofs.YtlblgfpafdfilaaDoor
open Go.ChangeShapes Go.WideShapes Go.ChangeAt Go.RowKit

set_option maxRecDepth 100000 in
theorem own : ownKnob Tryd.prog.godebug = none := by kernel_rfl
set_option maxRecDepth 100000 in
theorem laidOut : laidOutB Tryd.prog = true := by kernel_rfl
theorem bytes38 : Tryd.prog.bytesOf 38 = 64 := by kernel_rfl
theorem cells38 : Tryd.prog.cellsOf 38 = 7 := by kernel_rfl
theorem cells36 : Tryd.prog.cellsOf 36 = 4 := by kernel_rfl
theorem cells34 : Tryd.prog.cellsOf 34 = 1 := by kernel_rfl
theorem cells4 : Tryd.prog.cellsOf 4 = 1 := by kernel_rfl
theorem cells3 : Tryd.prog.cellsOf 3 = 1 := by kernel_rfl
theorem cells9 : Tryd.prog.cellsOf 9 = 1 := by kernel_rfl
theorem cells5 : Tryd.prog.cellsOf 5 = 1 := by kernel_rfl
theorem cells85 : Tryd.prog.cellsOf 85 = 5 := by kernel_rfl

theorem list_of {P : Nat → AV → Prop} (n : Nat) (h : ∀ i, i < n → ∃ it, P i it) : ∃ its : List AV, its.length = n ∧ ∀ i it, its[i]? = some it → P i it := by
  induction n with
  | zero => exact ⟨[], rfl, fun i it hi => by simp at hi⟩
  | succ n ih =>
    obtain ⟨its, hl, hp⟩ := ih fun i hi => h i (by omega)
    obtain ⟨it, hit⟩ := h n (by omega)
    refine ⟨its ++ [it], by simp [hl], fun i it' hi => ?_⟩
    rcases Nat.lt_or_ge i its.length with hlt | hge
    · rw [List.getElem?_append_left hlt] at hi
      exact hp i it' hi
    · rw [List.getElem?_append_right hge] at hi
      have h0 : i - its.length = 0 := by
        rcases Nat.eq_zero_or_pos (i - its.length) with h0 | h0
        · exact h0
        · rw [List.getElem?_eq_none (by simp; omega)] at hi; cases hi
      rw [h0] at hi
      simp at hi
      subst hi
      obtain rfl : i = n := by omega
      exact hit

set_option maxRecDepth 100000 in
/-- a thing that comes in, by its four cells -/
theorem th_open {H : Type} {enc : TypeId × Value → H} {W : World} {n : Nat} {cs : List Value} {y : DataW H × List MemPlace} (hl : cs.length = 4)
    (h : DataW.trod enc Tryd.prog W 0 (fun _ => true) true n 36 cs = some y) : ∃ x : Th, x.i < 4294967296 ∧ x.a.size ≤ 9223372036854775807 ∧ x.b.size ≤ 9223372036854775807 ∧ cs = [.bool x.r, .int .u32 (x.i : Int), .string x.a, .string x.b] := by
  obtain ⟨ys, n', hn', hy, hlen, hyl, hfl⟩ := DataW.trod_struct Tryd.underlying36 h
  match cs, hl with
  | [v0, v1, v2, v3], _ =>
    match ys, hyl with
    | [y0, y1, y2, y3], _ =>
      have g0 : DataW.trod enc Tryd.prog W 0 (fun _ => true) true n' 4 [v0] = some y0 := by
        have g := hfl 0 _ rfl
        simpa [cells4] using g
      have g1 : DataW.trod enc Tryd.prog W 0 (fun _ => true) true n' 34 [v1] = some y1 := by
        have g := hfl 1 _ rfl
        simpa [cells4, cells34] using g
      have g2 : DataW.trod enc Tryd.prog W 0 (fun _ => true) true n' 9 [v2] = some y2 := by
        have g := hfl 2 _ rfl
        simpa [cells4, cells34, cells9] using g
      have g3 : DataW.trod enc Tryd.prog W 0 (fun _ => true) true n' 9 [v3] = some y3 := by
        have g := hfl 3 _ rfl
        simpa [cells4, cells34, cells9] using g
      obtain ⟨q0, e0, _⟩ := DataW.trod_bool Tryd.underlying4 g0
      obtain ⟨q1, e1, _, w1⟩ := DataW.trod_int Tryd.underlying34 g1
      obtain ⟨q2, e2, _, w2⟩ := DataW.trod_string Tryd.underlying9 g2
      obtain ⟨q3, e3, _, w3⟩ := DataW.trod_string Tryd.underlying9 g3
      simp only [List.cons.injEq, and_true] at e0 e1 e2 e3
      subst e0 e1 e2 e3
      have b1 : 0 ≤ q1 ∧ q1 ≤ 4294967295 := by simpa [Lit.wf, IntKind.min, IntKind.max, IntKind.signed, IntKind.bits] using w1
      obtain ⟨q, rfl⟩ : ∃ q : Nat, q1 = (q : Int) := ⟨q1.toNat, by omega⟩
      exact ⟨⟨q0, q, q2, q3⟩, by show q < _; omega, w2, w3, rfl⟩

set_option maxRecDepth 100000 in
theorem acts_open {H : Type} {enc : TypeId × Value → H} {W : World} {a : Option Addr} {n c : Nat} {d : DataW H} {p : List MemPlace}
    (h : DataW.Trod enc Tryd.prog W 0 (fun _ => true) true 22 (.slice a n c) d p)
    (hw : ∀ elems spare, d = .slice elems spare → (elems.length + spare.length) * Tryd.prog.bytesOf 38 ≤ reachBytes) : ∃ l, AR W a n l := by
  obtain ⟨fuel, hf⟩ := h
  rcases Go.Deep.open_slice Tryd.underlying22 hf with ⟨hcs, hx⟩ | ⟨ad, l, cap, m, f1, D, Pl, hcs, _, hl, hm, hmm, hx, hi⟩
  · simp [Value.cells] at hcs
    obtain ⟨rfl, rfl, rfl⟩ := hcs
    exact ⟨[], rfl, by simp, by omega, fun i v hi => by simp at hi⟩
  · simp [Value.cells] at hcs
    obtain ⟨rfl, rfl, rfl⟩ := hcs
    simp only [Prod.mk.injEq] at hx
    obtain ⟨hd, _⟩ := hx
    have hr := hw _ _ hd
    rw [bytes38] at hr
    simp only [if_true] at hmm
    subst hmm
    simp only [List.length_map, List.length_range, reachBytes] at hr
    have hn : n ≤ 140737488355328 := by omega
    have key : ∀ i, i < n → ∃ it : AV, it.Ok ∧ W.cell? (ad.add (i * 7)) = some (.int .i64 it.d) ∧ W.cell? (ad.add (i * 7 + 1)) = some (.int .u32 (it.t : Int)) ∧ W.cell? (ad.add (i * 7 + 2)) = some (.bool it.x.r) ∧ W.cell? (ad.add (i * 7 + 3)) = some (.int .u32 (it.x.i : Int)) ∧ W.cell? (ad.add (i * 7 + 4)) = some (.string it.x.a) ∧ W.cell? (ad.add (i * 7 + 5)) = some (.string it.x.b) ∧ W.cell? (ad.add (i * 7 + 6)) = some (.int .i64 it.m) := by
      intro i hin
      obtain ⟨cs', hc, ht⟩ := hi i (by omega)
      rw [cells38] at hc
      obtain ⟨ys, n', hn', hy, hlen, hyl, hfl⟩ := DataW.trod_struct Tryd.underlying38 ht
      obtain ⟨_, hcl, hat⟩ := World.cells?_some hc
      match cs', hcl with
      | [v0, v1, v2, v3, v4, v5, v6], _ =>
        match ys, hyl with
        | [y0, y1, y2, y3], _ =>
          have g0 : DataW.trod enc Tryd.prog W 0 (fun _ => true) true n' 3 [v0] = some y0 := by
            have g := hfl 0 _ rfl
            simpa [cells3] using g
          have g1 : DataW.trod enc Tryd.prog W 0 (fun _ => true) true n' 34 [v1] = some y1 := by
            have g := hfl 1 _ rfl
            simpa [cells3, cells34] using g
          have g2 : DataW.trod enc Tryd.prog W 0 (fun _ => true) true n' 36 [v2, v3, v4, v5] = some y2 := by
            have g := hfl 2 _ rfl
            simpa [cells3, cells34, cells36] using g
          have g3 : DataW.trod enc Tryd.prog W 0 (fun _ => true) true n' 3 [v6] = some y3 := by
            have g := hfl 3 _ rfl
            simpa [cells3, cells34, cells36] using g
          obtain ⟨q0, e0, _, _⟩ := DataW.trod_int Tryd.underlying3 g0
          obtain ⟨q1, e1, _, w1⟩ := DataW.trod_int Tryd.underlying34 g1
          obtain ⟨x, hxi, hxa, hxb, e2⟩ := th_open rfl g2
          obtain ⟨q3, e3, _, _⟩ := DataW.trod_int Tryd.underlying3 g3
          simp only [List.cons.injEq, and_true] at e0 e1 e2 e3
          obtain ⟨e20, e21, e22, e23⟩ := e2
          subst e0 e1 e3 e20 e21 e22 e23
          have b1 : 0 ≤ q1 ∧ q1 ≤ 4294967295 := by simpa [Lit.wf, IntKind.min, IntKind.max, IntKind.signed, IntKind.bits] using w1
          obtain ⟨q, rfl⟩ : ∃ q : Nat, q1 = (q : Int) := ⟨q1.toNat, by omega⟩
          have c0 := hat 0 (by omega)
          have c1 := hat 1 (by omega)
          have c2 := hat 2 (by omega)
          have c3 := hat 3 (by omega)
          have c4 := hat 4 (by omega)
          have c5 := hat 5 (by omega)
          have c6 := hat 6 (by omega)
          simp only [add_of_add] at c0 c1 c2 c3 c4 c5 c6
          exact ⟨⟨q0, q, x, q3⟩, ⟨by show q < _; omega, hxi, hxa, hxb⟩, by simpa using c0, by simpa using c1, by simpa using c2, by simpa using c3, by simpa using c4, by simpa using c5, by simpa using c6⟩
    obtain ⟨its, hlen, hits⟩ := list_of n key
    refine ⟨its, hlen, fun it hit => ?_, hn, fun i it hit => ?_⟩
    · obtain ⟨i, hi⟩ := List.getElem?_of_mem hit
      exact (hits i it hi).1
    · obtain ⟨b, o, spot⟩ := ad
      obtain ⟨_, c0, c1, c2, c3, c4, c5, c6⟩ := hits i it hit
      obtain ⟨it0, _, h0, _⟩ := key 0 (by have := (List.getElem?_eq_some_iff.1 hit).1; omega)
      have hspot : spot = none := by simpa [Addr.add] using World.cell?_spot h0
      subst hspot
      have e : ∀ j, (⟨b, o, none⟩ : Addr).add j = ⟨b, o + j, none⟩ := fun j => by
        unfold Addr.add
        split
        · rename_i h0; rw [h0]; rfl
        · rfl
      simp only [e] at c0 c1 c2 c3 c4 c5 c6
      exact ⟨b, o, rfl, c0, c1, c2, c3, c4, c5, c6⟩

theorem gAg : Tryd.prog.globalNamed "cadastre/lock.against" = some 1 := by kernel_rfl
theorem gIn : Tryd.prog.globalNamed "cadastre/lock.within" = some 0 := by kernel_rfl
theorem gAgT : (Tryd.prog.globals[1]?).map (·.type) = some 85 := by kernel_rfl
theorem gInT : (Tryd.prog.globals[0]?).map (·.type) = some 85 := by kernel_rfl
/-- what each of the rows lists -/
def laidV : List (String × DataW Unit) := Rows.lockNobodyRow.laid
set_option maxRecDepth 100000 in
theorem laid_gives {W : World} (hL : laidMetH Tryd.prog laidV W) : Gw W := by
  rw [MakeChecks.laidMetH_plain _ _ _ (by kernel_rfl)] at hL
  have h1 : Lib.TabIs Tryd.prog W "cadastre/lock.against" .u8 [0, 16, 24, 20, 30] := Lib.tabIs_of_head gAg gAgT Tryd.underlying85 Tryd.underlying5 cells5 cells85 hL
  have h0 : Lib.TabIs Tryd.prog W "cadastre/lock.within" .u8 [0, 2, 6, 10, 30] := Lib.tabIs_of_head gIn gInT Tryd.underlying85 Tryd.underlying5 cells5 cells85 hL.tail
  refine ⟨fun k hk0 hk4 => ?_, ?_⟩
  · obtain ⟨k, rfl⟩ : ∃ m : Nat, k = (m : Int) := ⟨k.toNat, by omega⟩
    rw [Int.toNat_natCast]
    have a0 := h0.cell gIn k (by simp; omega)
    have a1 := h1.cell gAg k (by simp; omega)
    rw [a0, a1]
    match k, hk4 with
    | 0, _ => exact ⟨rfl, rfl⟩
    | 1, _ => exact ⟨rfl, rfl⟩
    | 2, _ => exact ⟨rfl, rfl⟩
    | 3, _ => exact ⟨rfl, rfl⟩
    | 4, _ => exact ⟨rfl, rfl⟩
    | k + 5, h => omega
  · have := World.block_lt_of_cell? W _ (h1.cell gAg 0 (by simp))
    exact this
noncomputable def laidE (os : Os) : World := World.laidAll Tryd.prog os laidV
theorem laid_metE (os : Os) (args : Array Value) : laidMet Tryd.prog laidV ((laidE os).forCall (fun _ _ => 0) ⟨#[], args, []⟩).memory := laidMet_laidAll _ (by kernel_rfl) (by kernel_rfl)
end Go.Proofs.YtlblgfpafdfilaaDoor
