/-
  STAGE 12: DeleteFunc, its walk.
-/
import Derived.Test.YtlblgfpafdfilaaDoorMD
import Derived.Test.YtlblgfpafdfilaaDoorUW
namespace Go.Proofs.YtlblgfpafdfilaaDoor
open Go.RowKit Go.Sort

section
variable {ops : Array Oper} {rest : List Oper} {o : Oper} {a : Act} {w : World} {Q : Exit → Act → World → Prop}
set_option maxRecDepth 100000 in
/-- a lock into a row of locks -/
theorem wpList_stO (hgd : o.guard = none) (ty : TypeId) (x y : Operand) (ho : o.op = .store ty x y) (b i n c : Nat) (l : LK) (cur : List LK) (hx : a.eval x = .pointer (some ⟨b, i * 7, none⟩)) (hy : a.eval y = .agg (lf l).toArray)
    (hb : OwR w 46 7 lf (.slice (some ⟨b, 0, none⟩) n c) cur) (hn : cur.length = n) (hi : i < n) (ht : (Tryd.prog.info? ty).map (·.size) = some 7)
    (hK : ∀ w', OwR w' 46 7 lf (.slice (some ⟨b, 0, none⟩) n c) (cur.set i l) → Fr w w' (fun q => q = b) → wpList Tryd.prog ops Q rest (a.put o.dst undef) w') : wpList Tryd.prog ops Q (o :: rest) a w := by
  refine wpList_store_mid hgd ty x y ho b (i * 7) (lf l).toArray hx hy (fun j hj => ⟨?_, hb.frozen _⟩) (by rw [ht]; rfl) (all1 (by rfl)) ?_
  · have hj7 : j < 7 := hj
    obtain ⟨b', c', e', _, hat⟩ := hb.at_ lf_len (i := i) (x := cur[i]'(by omega)) (List.getElem?_eq_getElem _)
    injection e' with e1 _ _
    injection e1 with e1
    injection e1 with e1
    subst e1
    rw [hat j ((lf (cur[i]'(by omega)))[j]'(by rw [lf_len]; exact hj7)) (List.getElem?_eq_getElem _)]
    rfl
  · exact hK _ (hb.sets hn lf_len hi l) (Fr.sets w b _ _)
end
def DelO (w : World) (t : Nat) (v : Value) (ls : List LK) (e : Ending) (w' : World) : Prop :=
  ∃ v', e = .returned v' ∧ OwR w' 46 7 lf v' (ls.filter fun l => !(l.t == t)) ∧ v'.ownBlock = v.ownBlock ∧ Fr w w' fun b => v.ownBlock = some b
theorem own_cells {w : World} {b n c : Nat} {ls : List LK} (h : OwR w 46 7 lf (.slice (some ⟨b, 0, none⟩) n c) ls) {k : Nat} {l : LK} (hk : ls[k]? = some l) : Cs w b (k * 7) l := by
  obtain ⟨b', c', e', _, hat⟩ := h.at_ lf_len hk
  injection e' with e1 _ _
  injection e1 with e1
  injection e1 with e1
  subst e1
  exact ⟨hat 0 _ rfl, hat 1 _ rfl, hat 2 _ rfl, hat 3 _ rfl, hat 4 _ rfl, hat 5 _ rfl, hat 6 _ rfl⟩
theorem own_row {w : World} {A : Option Addr} {n c : Nat} {ls : List LK} (h : OwR w 46 7 lf (.slice A n c) ls) : Row w A ls := fun i l hi => by
  obtain ⟨b, c', e', _, hat⟩ := h.at_ lf_len hi
  injection e' with e1 _ _
  subst e1
  exact ⟨b, rfl, hat 0 _ rfl, hat 1 _ rfl, hat 2 _ rfl, hat 3 _ rfl, hat 4 _ rfl, hat 5 _ rfl, hat 6 _ rfl⟩
theorem own_some {w : World} {b n c o : Nat} {ls : List LK} (h : OwR w 46 7 lf (.slice (some ⟨b, 0, none⟩) n c) ls) (hn : ls.length = n) (ho : o < n * 7) : (w.cell? ⟨b, o, none⟩).isSome = true := by
  subst hn
  rw [World.ownsRow.cellAt h o ho, List.getElem?_eq_getElem (by rw [flat_len lf_len]; exact ho)]
  rfl
theorem act7 {w : World} {g : Nat} {l : LK} (h : Blk w g 46 (lcs l)) : w.cell? ⟨g, 0, none⟩ = some (.int .u32 (l.t : Int)) ∧ w.cell? ⟨g, 1, none⟩ = some (.bool l.x.r) ∧ w.cell? ⟨g, 2, none⟩ = some (.int .u32 (l.x.i : Int)) ∧ w.cell? ⟨g, 3, none⟩ = some (.string l.x.a) ∧ w.cell? ⟨g, 4, none⟩ = some (.string l.x.b) ∧ w.cell? ⟨g, 5, none⟩ = some (.int .i64 l.m) ∧ w.cell? ⟨g, 6, none⟩ = some (.bool l.h) :=
  ⟨h.cell 0, h.cell 1, h.cell 2, h.cell 3, h.cell 4, h.cell 5, h.cell 6⟩
set_option maxRecDepth 100000 in
set_option maxHeartbeats 4000000 in
theorem delete_any (t a : Nat) (v : Value) (ls : List LK) (w : World) (hO : OwR w 46 7 lf v ls) (hn : ls.length ≤ 16384) (ht : Blk w a 34 #[.int .u32 (t : Int)]) :
    Calls Tryd.prog 38 #[v, .func (.func 39) #[] #[.pointer (some ⟨a, 0, none⟩)]] w (DelO w t v ls) := by
  obtain ⟨A, c, rfl, hc, hm, h0, hA⟩ := hO.form
  have eg : ∀ args w, (callFunc 39 args).run Tryd.prog w = .ok (.enter 39 args) w := enters_of Tryd.func39 (by kernel_rfl) rfl
  have c0 := ht.cell 0
  simp only [List.getElem?_toArray, List.getElem?_cons_zero] at c0
  have HI := Lib.hid (index_any t a A ls.length c ls w rfl (own_row hO) hn hc c0)
  have HO := Lib.hid hO
  have HT := Lib.hid ht
  have HNE := Lib.hid (show ∀ ad : Addr, A = some ad → ad.block ≠ a from fun ad e e' => by
    have := Blk.own_ne ht hO (by decide)
    subst e
    exact this (by rw [← e']; rfl))
  have HA := Lib.hid hA
  obtain ⟨n, hnn⟩ : ∃ n, n = ls.length := ⟨_, rfl⟩
  rw [← hnn] at HI HO hn hc ⊢
  have HN := Lib.hid hnn
  have HC := Lib.hid (show c ≤ 9223372036854775807 by simpa [maxLen] using hm)
  clear hO ht hA h0 c0 hnn hm
  go_enter Tryd.func38, Tryd.ntmps38
  go_wp2_with (go_at_call 63; with_reducible refine HI.out.mono ?_; rintro e w1 ⟨r, rfl, hf, hb1⟩; have HB1 := Lib.hid hb1; rcases hf.out with ⟨rfl, hall⟩ | ⟨k, l, rfl, hl, hp, hall⟩; all_goals (clear hf; try (have hkn : k < n := (by have := (List.getElem?_eq_some_iff.1 hl).1; have := HN.out; omega); have hne1 : ((k : Int) == -1) = false := beq_eq_false_iff_ne.2 (by omega); have hk1 : IntKind.i64.wrap ((k : Int) + 1) = ((k + 1 : Nat) : Int) := (by rw [IntWalk.i64_in _ (by omega)]; omega))))
  · go_ret
    have hk := keep_none hall
    exact ⟨_, rfl, by rw [hk]; exact HO.out.up HB1.out, rfl, Fr.of_below HB1.out _⟩
  · obtain ⟨b, rfl, hcs⟩ := own_row HO.out k l hl
    obtain ⟨hs1, hs2⟩ := cur_start hl hp hall
    have hne : b ≠ a := HNE.out _ rfl
    have HS1 := Lib.hid hs1
    have HS2 := Lib.hid hs2
    clear hall hp hl hcs hs1 hs2
    go_loopw [5, 6] (fun s5 s6 wr => ∃ i j : Nat, j ≤ n ∧ i < j ∧ s5 = .int .i64 (i : Int) ∧ s6 = .int .i64 (j : Int) ∧ (keepM t ls j).length = i ∧ OwR wr 46 7 lf (.slice (some ⟨b, 0, none⟩) n c) (curM t ls j) ∧ Fr w wr fun q => q = b) (fun _ s6 _ => n - (intOf s6).toNat)
    case atStart => exact ⟨k, k + 1, by omega, by omega, rfl, by go_num, HS2.out, by rw [HS1.out]; exact HO.out.up HB1.out, Fr.of_below HB1.out _⟩
    case round =>
      obtain ⟨i, j, hj, hij, rfl, rfl, hi, ho, hf⟩ := hrel
      have HI2 := Lib.hid hi
      have HO2 := Lib.hid ho
      have HF2 := Lib.hid hf
      by_cases hlt : j < n
      · have hl : ls[j]? = some (ls[j]'(by have := HN.out; omega)) := List.getElem?_eq_getElem _
        generalize ls[j]'(by have := HN.out; omega) = l at hl
        have hcs := own_cells ho (cur_at (t := t) hl)
        obtain ⟨z0, z1, z2, z3, z4, z5, z6⟩ := hcs
        have hin : ((j : Int) < (n : Int)) := by omega
        have e1 : IntKind.i64.wrap ((j : Int) + 1) = ((j + 1 : Nat) : Int) := by rw [IntWalk.i64_in _ (by omega)]; omega
        have e2 : IntKind.i64.wrap ((i : Int) + 1) = ((i + 1 : Nat) : Int) := by rw [IntWalk.i64_in _ (by omega)]; omega
        obtain ⟨w2, hw2⟩ : ∃ w2, w2 = wr.alloc (.cells #[.int .u32 (l.t : Int), .bool l.x.r, .int .u32 (l.x.i : Int), .string l.x.a, .string l.x.b, .int .i64 l.m, .bool l.h] 46) := ⟨_, rfl⟩
        have hb2 : Below wr.heap.size wr w2 := by rw [hw2]; exact (Below.refl _ _).alloc (Nat.le_refl _) _
        have hk2 : Blk w2 wr.heap.size 46 (lcs l) := by rw [hw2]; exact Blk.new _ _ _
        have HK2 := Lib.hid hk2
        have HB2 := Lib.hid hb2
        obtain ⟨k0, k1, k2, k3, k4, k5, k6⟩ := act7 hk2
        have HCK := Lib.hid (delP_any t a l w2 (by
          have := ((HT.out.keep hf fun e => hne e.symm).below hb2 (HT.out.keep hf fun e => hne e.symm).lt).cell 0
          simpa using this))
        have HL := Lib.hid hl
        unfold LK.agg at HCK
        clear hi ho hf hb2 hk2 hl
        go_upto_region 8 with fail
        rw [← hw2]
        clear hw2 z0 z1 z2 z3 z4 z5 z6
        cases hP : (l.t == t) with
        | true =>
          rw [hP] at HCK
          have HP := Lib.hid (cur_skip HL.out hP)
          have HP2 := Lib.hid (show keepM t ls (j + 1) = keepM t ls j by rw [keep_succ HL.out, if_pos hP])
          clear hP
          go_wp2_with fail
          with_reducible refine HCK.out.mono ?_
          rintro e w3 ⟨rfl, hb3⟩
          have HB3 := Lib.hid (below_trans HB2.out hb3)
          clear hb3
          go_wp2_with fail
          go_roundw
          case rel => exact ⟨i, j + 1, by omega, by omega, rfl, by go_num, by rw [HP2.out]; exact HI2.out, by rw [HP.out]; exact HO2.out.up HB3.out, HF2.out.same (Fr.of_below HB3.out _)⟩
          case measure => simp [intOf]; omega
        | false =>
          rw [hP] at HCK
          have HP := Lib.hid (cur_keep HL.out hP)
          clear hP
          go_wp2_with fail
          with_reducible refine HCK.out.mono ?_
          rintro e w3 ⟨rfl, hb3⟩
          have HB3 := Lib.hid (below_trans HB2.out hb3)
          obtain ⟨k0, k1, k2, k3, k4, k5, k6⟩ := act7 (HK2.out.below hb3 HK2.out.lt)
          clear hb3
          have hii : ((i : Int) < (n : Int)) := by omega
          go_wp2_with (refine wpList_stO rfl 46 (.tmp 33) (.tmp 32) rfl b i n c l _ rfl rfl (HO2.out.up HB3.out) (by rw [cur_len (by have := HN.out; omega)]; exact HN.out.symm) (by omega) size46 ?_; intro w4 ho4 hf4; have HO4 := Lib.hid ho4; have HF4 := Lib.hid hf4; clear ho4 hf4)
          go_roundw
          case rel => exact ⟨i + 1, j + 1, by omega, by omega, by go_num, by go_num, by rw [HP.out.2, HI2.out], by rw [HP.out.1, HI2.out]; exact HO4.out, (HF2.out.same (Fr.of_below HB3.out _)).same HF4.out⟩
          case measure => simp [intOf]; omega
      · obtain rfl : j = n := by omega
        have hin : ¬ ((j : Int) < (j : Int)) := by omega
        obtain ⟨vs, hcl⟩ := run_clear46 wr 0 b i (j - i) (c - i) (fun q hq => own_some ho (by rw [cur_len (by have := HN.out; omega)]; exact HN.out.symm) (by omega)) (fun q => ho.frozen q)
        have HE := Lib.hid (ho.cleared (by rw [cur_len (by have := HN.out; omega)]; exact HN.out.symm) lf_len (show i ≤ j by omega) vs)
        clear hi ho hf
        go_wp2
        go_ret
        have hkn2 := keep_all t ls
        rw [← HN.out] at hkn2
        have hcl2 := cur_take t ls j
        rw [HI2.out] at hcl2
        rw [hcl2, hkn2] at HE
        exact ⟨_, rfl, HE.out, rfl, (HF2.out.same (Fr.sets wr b vs (i * 7))).mono fun q _ hq => by rw [hq]; rfl⟩
end Go.Proofs.YtlblgfpafdfilaaDoor
