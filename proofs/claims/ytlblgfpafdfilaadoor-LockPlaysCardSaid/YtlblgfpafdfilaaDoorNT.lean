/-
STAGE 12: the document's with, its walk.
-/
import Derived.Test.YtlblgfpafdfilaaDoorNN
import Derived.Test.YtlblgfpafdfilaaDoorNR
import Derived.ChangeKeysEq
namespace Go.Proofs.YtlblgfpafdfilaaDoor
open Go.RowKit

set_option maxRecDepth 100000 in
theorem pair_eq (a b c d : Nat) (w : World) : (binOp .eql 47 (.agg #[.int .u32 (a : Int), .int .u32 (b : Int)]) (.agg #[.int .u32 (c : Int), .int .u32 (d : Int)])).run Tryd.prog w = .ok (.bool (a == c && b == d)) w := by
  have h1 := nbeq_ a c
  have h2 := nbeq_ b d
  rw [← h1, ← h2]
  obtain ⟨i0, hi, _, _, _⟩ := info_parts K34.inf
  have hc : Tryd.prog.cellsOf 34 = 1 := by kernel_rfl
  have hp : ∀ (xs : Array Value) (i : Nat) (v : Value), xs[i]? = some v → (part 34 xs i).run Tryd.prog w = .ok v w := fun xs i v h => by
    simp [part, isAgg, run_underlying Tryd.underlying34, h]
  have hq : (Op.equal 47 (.agg #[.int .u32 (a : Int), .int .u32 (b : Int)]) (.agg #[.int .u32 (c : Int), .int .u32 (d : Int)])).run Tryd.prog w = .ok (((a : Int) == (c : Int)) && ((b : Int) == (d : Int))) w := by
    unfold Op.equal Op.maxDepth
    rw [run_equalIn_array w _ _ _ Tryd.underlying47 hi, hc]
    show (Op.eqItems _ 34 1 _ _ [0, 1]).run Tryd.prog w = _
    have e0 : ∀ x y : Int, (Op.equalIn 9999 34 (.int .u32 x) (.int .u32 y)).run Tryd.prog w = .ok (x == y) w := fun x y => run_equalIn_int (P := Tryd.prog) w 9998 34 .u32 .u32 x y Tryd.underlying34
    have q0 : (part 34 #[.int .u32 (a : Int), .int .u32 (b : Int)] (0 * 1)).run Tryd.prog w = .ok (.int .u32 (a : Int)) w := hp _ _ _ rfl
    have q1 : (part 34 #[.int .u32 (a : Int), .int .u32 (b : Int)] (1 * 1)).run Tryd.prog w = .ok (.int .u32 (b : Int)) w := hp _ _ _ rfl
    have q2 : (part 34 #[.int .u32 (c : Int), .int .u32 (d : Int)] (0 * 1)).run Tryd.prog w = .ok (.int .u32 (c : Int)) w := hp _ _ _ rfl
    have q3 : (part 34 #[.int .u32 (c : Int), .int .u32 (d : Int)] (1 * 1)).run Tryd.prog w = .ok (.int .u32 (d : Int)) w := hp _ _ _ rfl
    simp only [Op.eqItems, Sem.run_bind, q0, q2, e0, Result.andThen_ok]
    generalize ((a : Int) == (c : Int)) = f
    cases f
    · rfl
    · simp only [Bool.not_true, Bool.false_eq_true, if_false, Sem.run_bind, q1, q3, e0, Result.andThen_ok]
      generalize ((b : Int) == (d : Int)) = f2
      cases f2 <;> rfl
  show ((Op.equal 47 _ _) >>= fun r => pure (Value.bool r) : Sem Value).run Tryd.prog w = _
  rw [Sem.run_bind, hq]
  rfl
theorem withM_in {l : List (Nat × Nat)} {p : Nat × Nat} (h : p ∈ l) : withM l p = l := by unfold withM; rw [if_pos h]
theorem withM_new {l : List (Nat × Nat)} {p : Nat × Nat} (h : p ∉ l) : withM l p = l.take (atTo l p l.length) ++ [p] ++ l.drop (atTo l p l.length) := by unfold withM; rw [if_neg h]
theorem pbeq (a b : Nat × Nat) : (a.1 == b.1 && a.2 == b.2) = true ↔ a = b := by
  rw [Bool.and_eq_true, beq_iff_eq, beq_iff_eq]
  exact ⟨fun h => Prod.ext h.1 h.2, fun h => by rw [h]; exact ⟨rfl, rfl⟩⟩
/-- a row of pairs in new memory, while it grows -/
structure WN (w wr : World) (v : Value) (acc : List (Nat × Nat)) : Prop where
  own : OwR wr 47 2 pf v acc
  new : ∀ b, v.ownBlock = some b → w.heap.size ≤ b
  bel : RowKit.Below w.heap.size w wr
theorem WN.more {w wr w2 w3 : World} {v v' : Value} {acc acc' : List (Nat × Nat)} (h : WN w wr v acc) (hb2 : RowKit.Below wr.heap.size wr w2) (ho : OwR w3 47 2 pf v' acc') (hg : w2.grownBy w3 v.ownBlock) (hb : v'.ownBlock = v.ownBlock ∨ v'.ownBlock = some w2.heap.size) : WN w w3 v' acc' := by
  have hs := h.bel.size
  have hs2 := hb2.size
  refine ⟨ho, fun b hb' => ?_, ?_⟩
  · rcases hb with hb | hb
    · exact h.new b (by rw [← hb]; exact hb')
    · rw [hb] at hb'; injection hb' with hb'; rw [← hb']; omega
  · exact (h.bel.trans (hb2.mono hs)).trans (below_grown_ hg (fun b hb => h.new b hb) (by omega))
theorem PRow.part {w : World} {b : Nat} {l : List (Nat × Nat)} (h : PRow w (some ⟨b, 0, none⟩) l) (ks : List (Nat × Nat)) (a : Nat) (hks : ∀ i p, ks[i]? = some p → l[a + i]? = some p) (A : Addr) (hA : ∀ i, i < ks.length → A.add (i * 2) = ⟨b, (a + i) * 2, none⟩ ∧ A.add (i * 2 + 1) = ⟨b, (a + i) * 2 + 1, none⟩) :
    ∀ i x j u, ks[i]? = some x → (pf x)[j]? = some u → ∃ ad, some A = some ad ∧ w.cell? (ad.add (i * 2 + j)) = some u := by
  intro i x j u hi hj
  have hil := (List.getElem?_eq_some_iff.1 hi).1
  obtain ⟨b', e, h1, h2⟩ := h _ _ (hks i x hi)
  injection e with e
  injection e with e
  subst e
  refine ⟨A, rfl, ?_⟩
  match j, hj with
  | 0, hj => injection hj with hj; subst hj; rw [Nat.add_zero, (hA i hil).1]; exact h1
  | 1, hj => injection hj with hj; subst hj; rw [(hA i hil).2]; exact h2
  | j + 2, hj => simp [pf] at hj
theorem PRow.head {w : World} {b : Nat} {l : List (Nat × Nat)} (h : PRow w (some ⟨b, 0, none⟩) l) (a : Nat) : ∀ i x j u, (l.take a)[i]? = some x → (pf x)[j]? = some u → ∃ ad, some (⟨b, 0, none⟩ : Addr) = some ad ∧ w.cell? (ad.add (i * 2 + j)) = some u :=
  h.part (l.take a) 0 (fun i p hi => by
    rw [Nat.zero_add]
    have := (List.getElem?_eq_some_iff.1 hi).1
    rw [List.length_take] at this
    rwa [List.getElem?_take_of_lt (by omega)] at hi) _ fun i _ => by rw [Nat.zero_add, add_head, add_head]; exact ⟨rfl, rfl⟩
theorem PRow.rest {w : World} {b c : Nat} {l : List (Nat × Nat)} (h : PRow w (some ⟨b, 0, none⟩) l) (a : Nat) (hc : l.length ≤ c) : ∀ i x j u, (l.drop a)[i]? = some x → (pf x)[j]? = some u → ∃ ad, some (if c = a then (⟨b, 0, none⟩ : Addr) else ⟨b, a * 2, none⟩) = some ad ∧ w.cell? (ad.add (i * 2 + j)) = some u :=
  h.part (l.drop a) a (fun i p hi => by rwa [List.getElem?_drop] at hi) _ fun i hi => by
    rw [List.length_drop] at hi
    rw [if_neg (by omega)]
    have e : ∀ j, (⟨b, a * 2, none⟩ : Addr).add j = ⟨b, a * 2 + j, none⟩ := fun j => by unfold Addr.add; split <;> simp_all
    rw [e, e]
    constructor <;> congr 1 <;> omega
set_option maxRecDepth 100000 in
set_option maxHeartbeats 8000000 in
theorem with_any (w : World) (A : Option Addr) (n c : Nat) (l : List (Nat × Nat)) (hlen : l.length = n) (h : OwR w 47 2 pf (.slice A n c) l) (hn : n ≤ 1000000000) (x y : Nat) :
    Calls Tryd.prog 35 #[.slice A n c, .agg #[.int .u32 (x : Int), .int .u32 (y : Int)]] w fun e w' => ∃ v, e = .returned v ∧ OwR w' 47 2 pf v (withM l (x, y)) ∧ Below w.heap.size w w' ∧ ∀ b, v.ownBlock = some b → (Value.slice A n c).ownBlock = some b ∨ w.heap.size ≤ b := by
  obtain ⟨w1, hw1⟩ : ∃ w1, w1 = w.alloc (.cells #[.int .u32 (x : Int), .int .u32 (y : Int)] 47) := ⟨_, rfl⟩
  have hb1 : Below w.heap.size w w1 := by rw [hw1]; exact (Below.refl _ _).alloc (Nat.le_refl _) _
  have hk : Blk w1 w.heap.size 47 #[.int .u32 (x : Int), .int .u32 (y : Int)] := by rw [hw1]; exact Blk.new _ _ _
  have HH := Lib.hid (h.up hb1)
  have HR := Lib.hid (h.up hb1).prow
  have HK := Lib.hid hk
  have HB1 := Lib.hid hb1
  have HL := Lib.hid hlen
  have HN := Lib.hid hn
  clear h hlen hb1 hk
  go_enter Tryd.func35, Tryd.ntmps35
  go_upto_region 3 with fail
  rw [← hw1]
  clear hw1
  go_loopw [5, 6] (fun a i wr => ∃ k : Nat, k ≤ n ∧ i = .int .i64 (k : Int) ∧ a = .int .i64 ((atTo l (x, y) k : Nat) : Int) ∧ (x, y) ∉ l.take k ∧ Below w1.heap.size w1 wr) (fun _ i _ => n - (intOf i).toNat)
  case atStart => exact ⟨0, by omega, rfl, rfl, by simp, Below.refl _ _⟩
  case round =>
    obtain ⟨k, hk, rfl, rfl, hni, hb⟩ := hrel
    have HB := Lib.hid hb
    have HNI := Lib.hid hni
    clear hni
    by_cases hlt : k < n
    · have hp : l[k]? = some (l[k]'(by have := HL.out; omega)) := List.getElem?_eq_getElem _
      generalize l[k]'(by have := HL.out; omega) = p at hp
      obtain ⟨b, rfl, c1, c2⟩ := (HR.out.up hb) k p hp
      have k0 := (HK.out.below hb HK.out.lt).cell 0
      have k1 := (HK.out.below hb HK.out.lt).cell 1
      simp only [List.getElem?_toArray, List.getElem?_cons_zero, List.getElem?_cons_succ] at k0 k1
      have HP := Lib.hid hp
      have hin : ((k : Int) < (n : Int)) := by omega
      have e1 : IntKind.i64.wrap ((k : Int) + 1) = ((k + 1 : Nat) : Int) := by rw [IntWalk.i64_in _ (by have := HN.out; omega)]; omega
      have heq := fun W => pair_eq p.1 p.2 x y W
      clear hb hp
      obtain ⟨f, hf⟩ : ∃ f, (p.1 == x && p.2 == y) = f := ⟨_, rfl⟩
      rw [hf] at heq
      have HF := Lib.hid hf
      clear hf
      cases f with
      | true =>
        have HE := Lib.hid (show withM l (x, y) = l from withM_in (by have := (pbeq p (x, y)).1 HF.out; rw [← this]; exact List.mem_of_getElem? HP.out))
        have HHW := Lib.hid (HH.out.up HB.out)
        go_upto_region 5 with fail
        go_region
        go_wp2_with fail
        go_ret
        exact ⟨_, rfl, by rw [HE.out]; exact HHW.out.up (Below.refl _ _).drew, (HB1.out.trans (HB.out.mono HB1.out.size)).drew, fun b' hb' => Or.inl hb'⟩
      | false =>
        have hne : p ≠ (x, y) := fun e => by have := HF.out; rw [(pbeq p (x, y)).2 e] at this; cases this
        have HNI2 := Lib.hid (show (x, y) ∉ l.take (k + 1) from fun hm => by
          rcases take_more HP.out hm with hm | hm
          · exact HNI.out hm
          · exact hne hm.symm)
        obtain ⟨d1, hd1⟩ : ∃ d, decide (p.1 < x) = d := ⟨_, rfl⟩
        obtain ⟨d2, hd2⟩ : ∃ d, decide (p.2 < y) = d := ⟨_, rfl⟩
        obtain ⟨d3, hd3⟩ : ∃ d, (p.1 == x) = d := ⟨_, rfl⟩
        have Q1 := Lib.hid (show decide ((p.1 : Int) < (x : Int)) = d1 by rw [← hd1, decide_eq_decide]; omega)
        have Q2 := Lib.hid (show decide ((p.2 : Int) < (y : Int)) = d2 by rw [← hd2, decide_eq_decide]; omega)
        have Q3 := Lib.hid (show ((p.1 : Int) == (x : Int)) = d3 by rw [nbeq_, hd3])
        have N1 := Lib.hid hd1
        have N2 := Lib.hid hd2
        have HAT := Lib.hid (show atTo l (x, y) (k + 1) = if (d1 || (d3 && d2)) = true then k + 1 else atTo l (x, y) k by
          show (if ltP (l.getD k (0, 0)) (x, y) = true then k + 1 else atTo l (x, y) k) = _
          rw [getD_of2 HP.out]
          unfold ltP
          rw [hd1, hd2, hd3])
        clear hne hd1 hd2 hd3
        go_upto_region 5 with fail
        go_region
        go_upto_region 7 with fail
        have hin3 : ((k : Int) < (n : Int)) := by omega
        have q1 := Q1.out
        have q2 := Q2.out
        have q3 := Q3.out
        have n1 := N1.out
        have n2 := N2.out
        have z1 := fun d os => cell_regrown (w := wr.drew) (c1 : wr.drew.cell? _ = _) d os
        have z2 := fun d os => cell_regrown (w := wr.drew) (c2 : wr.drew.cell? _ = _) d os
        have y1 := fun d os => cell_regrown (w := wr.drew) (k0 : wr.drew.cell? _ = _) d os
        have y2 := fun d os => cell_regrown (w := wr.drew) (k1 : wr.drew.cell? _ = _) d os
        have key : d1 = true ∨ (d1 = false ∧ d3 = false) ∨ (d1 = false ∧ d3 = true ∧ d2 = true) ∨ (d1 = false ∧ d3 = true ∧ d2 = false) := by cases d1 <;> cases d2 <;> cases d3 <;> simp
        clear c1 c2 k0 k1
        rcases key with rfl | ⟨rfl, rfl⟩ | ⟨rfl, rfl, rfl⟩ | ⟨rfl, rfl, rfl⟩ <;>
        · refine wp_region_quiet_below (by kernel_rfl) (by kernel_rfl) ?_
          repeat (go_big_quiet_step (fail))
          refine wpQuiet_nil ?_
          rintro W3 ⟨pp, hpp⟩
          have HB4 := Lib.hid (show Below wr.heap.size wr W3 by rw [hpp]; exact ((Below.refl _ _).drew).trans (below_regrown wr.drew _ _))
          clear hpp z1 z2 y1 y2 q1 q2 q3 n1 n2 heq
          go_wp2_with fail
          go_roundw
          case rel => exact ⟨k + 1, by omega, by go_num, by rw [HAT.out]; first | rfl | (simp; go_num), HNI2.out, HB.out.trans (HB4.out.mono HB.out.size)⟩
          case measure => simp [intOf]; omega
    · obtain rfl : k = n := by omega
      have hin : ¬ ((k : Int) < (k : Int)) := by omega
      have HE := Lib.hid (show (x, y) ∉ l by have := HNI.out; rwa [← HL.out, List.take_length] at this)
      have hAL : atTo l (x, y) k ≤ k := atTo_le _ _ _
      have HW := Lib.hid (show withM l (x, y) = l.take (atTo l (x, y) k) ++ [(x, y)] ++ l.drop (atTo l (x, y) k) by rw [withM_new HE.out, HL.out])
      generalize atTo l (x, y) k = a at hAL HW
      have hAL2 : (a : Int) ≤ (k : Int) := by omega
      have hAL3 : (0 : Int) ≤ (a : Int) := by omega
      have hw0 : WN w1 wr (.slice none 0 0) [] := ⟨OwR.nil_ _ _ _ _, fun b hb => by simp [Value.ownBlock] at hb, HB.out⟩
      have HW0 := Lib.hid hw0
      have HRW := Lib.hid (HR.out.up hb)
      have HNK := Lib.hid hn
      obtain ⟨A', c', e', hle, hmx, hno, hsm⟩ := HH.out.form
      injection e' with e1 e2 e3
      subst e1 e3
      rw [HL.out] at hle
      have hle2 : (k : Int) ≤ (c : Int) := by omega
      have HLE := Lib.hid hle
      have HTL := Lib.hid (show (l.take a).length = a by rw [List.length_take, HL.out]; omega)
      have HDL := Lib.hid (show (l.drop a).length = k - a by rw [List.length_drop, HL.out])
      have HAL := Lib.hid hAL
      clear hb hw0 hmx
      cases A with
      | none =>
        have HNL := Lib.hid (show l = [] from List.length_eq_zero_iff.1 (hno rfl))
        clear hno hsm
        go_upto_region 10 with fail
        go_upto_region 11 with (at_builtin; go_must (refine wpList_appR K47 pf_len pf_one rfl (.tmp 51) (.tmp 54) rfl (.slice none 0 0) [] rfl HW0.out.own _ _ _ (l.take a) rfl HTL.out (fun i x j u h => by rw [HNL.out] at h; simp at h) (by have := HNK.out; have := HAL.out; simp; omega) (by have := HNK.out; have := HAL.out; simp; omega) ?_); intro v' w4 hv4 hg4 hb4; have HW4 := Lib.hid (HW0.out.more (Below.refl _ _) hv4 hg4 hb4); have k0 := (HK.out.below HW4.out.bel HK.out.lt).cell 0; have k1 := (HK.out.below HW4.out.bel HK.out.lt).cell 1; simp only [List.getElem?_toArray, List.getElem?_cons_zero, List.getElem?_cons_succ] at k0 k1; clear hv4 hg4 hb4)
        have HO5 := Lib.hid (show OwR (w4.alloc (.cells #[.int .u32 (x : Int), .int .u32 (y : Int)] 47)) 47 2 pf v' ([] ++ l.take a) from HW4.out.own.up ((Below.refl _ _).alloc (Nat.le_refl _) _))
        have HR5 := Lib.hid (one_app_ (f := pf) (k := 2) w4 47 (x, y))
        go_upto_region 12 with (at_builtin; go_must (refine wpList_appR K47 pf_len pf_one rfl (.tmp 56) (.tmp 58) rfl v' ([] ++ l.take a) rfl HO5.out (some ⟨w4.heap.size, 0, none⟩) 1 1 [(x, y)] rfl rfl HR5.out (by have := HNK.out; have := HAL.out; have := HTL.out; simp only [List.nil_append]; omega) (by have := HNK.out; have := HAL.out; have := HTL.out; simp only [List.nil_append]; omega) ?_); intro v5 w5 hv5 hg5 hb5; have HW5 := Lib.hid (HW4.out.more ((Below.refl _ _).alloc (Nat.le_refl _) _) hv5 hg5 hb5); clear hv5 hg5 hb5)
        have HLN := Lib.hid (show ([] ++ l.take a ++ [(x, y)]).length + (k - a) ≤ 1000000001 by
          have h1 := HNK.out
          have h2 := HAL.out
          have h3 := HTL.out
          simp only [List.length_append, List.nil_append, List.length_singleton]
          omega)
        go_wp2_with (at_builtin; go_must (refine wpList_appR K47 pf_len pf_one rfl (.tmp 60) (.tmp 63) rfl v5 _ rfl HW5.out.own _ _ _ (l.drop a) rfl (by rw [List.length_drop]) (fun i x j u h => by rw [HNL.out] at h; simp at h) (by have := HLN.out; have := HL.out; omega) (by have := HLN.out; have := HL.out; omega) ?_); intro v6 w6 hv6 hg6 hb6; have HW6 := Lib.hid (HW5.out.more (Below.refl _ _) hv6 hg6 hb6); clear hv6 hg6 hb6)
        go_ret
        exact ⟨_, rfl, by rw [HW.out]; have := HW6.out.own; simpa using this, HB1.out.trans (HW6.out.bel.mono HB1.out.size), fun b' hb' => Or.inr (Nat.le_trans HB1.out.size (HW6.out.new b' hb'))⟩
      | some ad =>
        obtain ⟨b, rfl, _, _⟩ := hsm ad rfl
        clear hno hsm
        go_upto_region 10 with fail
        go_upto_region 11 with (at_builtin; go_must (refine wpList_appR K47 pf_len pf_one rfl (.tmp 51) (.tmp 54) rfl (.slice none 0 0) [] rfl HW0.out.own (some ⟨b, 0, none⟩) a c (l.take a) rfl HTL.out (HRW.out.head a) (by have := HNK.out; have := HAL.out; simp; omega) (by have := HNK.out; have := HAL.out; simp; omega) ?_); intro v' w4 hv4 hg4 hb4; have HW4 := Lib.hid (HW0.out.more (Below.refl _ _) hv4 hg4 hb4); have k0 := (HK.out.below HW4.out.bel HK.out.lt).cell 0; have k1 := (HK.out.below HW4.out.bel HK.out.lt).cell 1; simp only [List.getElem?_toArray, List.getElem?_cons_zero, List.getElem?_cons_succ] at k0 k1; clear hv4 hg4 hb4)
        have HO5 := Lib.hid (show OwR (w4.alloc (.cells #[.int .u32 (x : Int), .int .u32 (y : Int)] 47)) 47 2 pf v' ([] ++ l.take a) from HW4.out.own.up ((Below.refl _ _).alloc (Nat.le_refl _) _))
        have HR5 := Lib.hid (one_app_ (f := pf) (k := 2) w4 47 (x, y))
        go_upto_region 12 with (at_builtin; go_must (refine wpList_appR K47 pf_len pf_one rfl (.tmp 56) (.tmp 58) rfl v' ([] ++ l.take a) rfl HO5.out (some ⟨w4.heap.size, 0, none⟩) 1 1 [(x, y)] rfl rfl HR5.out (by have := HNK.out; have := HAL.out; have := HTL.out; simp only [List.nil_append]; omega) (by have := HNK.out; have := HAL.out; have := HTL.out; simp only [List.nil_append]; omega) ?_); intro v5 w5 hv5 hg5 hb5; have HW5 := Lib.hid (HW4.out.more ((Below.refl _ _).alloc (Nat.le_refl _) _) hv5 hg5 hb5); clear hv5 hg5 hb5)
        have HR6 := Lib.hid (((HR.out.up HW5.out.bel)).rest a (by rw [HL.out]; exact HLE.out))
        have HLN := Lib.hid (show ([] ++ l.take a ++ [(x, y)]).length + (k - a) ≤ 1000000001 by
          have h1 := HNK.out
          have h2 := HAL.out
          have h3 := HTL.out
          simp only [List.length_append, List.nil_append, List.length_singleton]
          omega)
        by_cases hca : c = a
        · rw [if_pos hca] at HR6
          go_wp2_with (at_builtin; go_must (refine wpList_appR K47 pf_len pf_one rfl (.tmp 60) (.tmp 63) rfl v5 _ rfl HW5.out.own _ _ _ (l.drop a) rfl (by rw [List.length_drop]) HR6.out (by have := HLN.out; have := HL.out; omega) (by have := HLN.out; have := HL.out; omega) ?_); intro v6 w6 hv6 hg6 hb6; have HW6 := Lib.hid (HW5.out.more (Below.refl _ _) hv6 hg6 hb6); clear hv6 hg6 hb6)
          go_ret
          exact ⟨_, rfl, by rw [HW.out]; have := HW6.out.own; simpa using this, HB1.out.trans (HW6.out.bel.mono HB1.out.size), fun b' hb' => Or.inr (Nat.le_trans HB1.out.size (HW6.out.new b' hb'))⟩
        · rw [if_neg hca] at HR6
          go_wp2_with (at_builtin; go_must (refine wpList_appR K47 pf_len pf_one rfl (.tmp 60) (.tmp 63) rfl v5 _ rfl HW5.out.own _ _ _ (l.drop a) rfl (by rw [List.length_drop]) HR6.out (by have := HLN.out; have := HL.out; omega) (by have := HLN.out; have := HL.out; omega) ?_); intro v6 w6 hv6 hg6 hb6; have HW6 := Lib.hid (HW5.out.more (Below.refl _ _) hv6 hg6 hb6); clear hv6 hg6 hb6)
          go_ret
          exact ⟨_, rfl, by rw [HW.out]; have := HW6.out.own; simpa using this, HB1.out.trans (HW6.out.bel.mono HB1.out.size), fun b' hb' => Or.inr (Nat.le_trans HB1.out.size (HW6.out.new b' hb'))⟩
end Go.Proofs.YtlblgfpafdfilaaDoor
