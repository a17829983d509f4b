/-
  STAGE 12: lasts.
-/
import Derived.Test.YtlblgfpafdfilaaDoorLT
import Derived.Maps.OwnSet
import Derived.Maps.OwnOps
namespace Go.Proofs.YtlblgfpafdfilaaDoor
open Go.RowKit Go.Sort

/-- the place of the last lock of t among the first k -/
def lastTo (ls : List LK) (t : Nat) : Nat → Nat
  | 0 => 0
  | k + 1 => if (ls.getD k okz).t = t then k else lastTo ls t k
def lastsF (ls : List LK) (i : Nat) : Nat := lastTo ls (ls.getD i okz).t ls.length
theorem lastTo_le (ls : List LK) (t : Nat) : ∀ k, lastTo ls t k ≤ k
  | 0 => Nat.le_refl _
  | k + 1 => by
    unfold lastTo
    have := lastTo_le ls t k
    split <;> omega
theorem keyed34 : Maps.Keyed Tryd.prog 34 := Maps.int_keyed Tryd.underlying34
theorem wf32 {n : Nat} (h : n < 4294967296) : (Lit.int .u32 (n : Int)).wf = true := WalkArith.wf_u32 (by omega)
theorem wf64 {n : Nat} (h : n ≤ 16384) : (Lit.int .i64 (n : Int)).wf = true := by
  refine WalkArith.wf_i64 ?_
  omega
theorem ownsMap_fr {H : Type} {w w' : World} {k : TypeId} {R : Value → Option (DataW H × List MemPlace)} {b n : Nat} {D : DataW H} {S : Nat → Prop} (h : w.ownsMap Tryd.prog k R b n D) (hf : Fr w w' S) (hb : ¬ S b) : w'.ownsMap Tryd.prog k R b n D := by
  obtain ⟨es, clock, h1, h2⟩ := h
  exact ⟨es, clock, (hf.block b (Array.getElem?_eq_some_iff.1 h1).1 hb).trans h1, h2⟩
/-- the map behind k locks -/
structure LM (w : World) (b k : Nat) (ls : List LK) (D : DataW Unit) : Prop where
  own : w.ownsMap Tryd.prog 34 (plainElem Tryd.prog 3) b k D
  isM : Maps.IsMap D
  at_ : ∀ t, D.atKey (.int .u32 ((t : Nat) : Int)) (.lit (.int .i64 0)) = .lit (.int .i64 ((lastTo ls t k : Nat) : Int))
theorem LM.fr {w w' : World} {b k : Nat} {ls : List LK} {D : DataW Unit} {S : Nat → Prop} (h : LM w b k ls D) (hf : Fr w w' S) (hb : ¬ S b) : LM w' b k ls D := ⟨ownsMap_fr h.own hf hb, h.isM, h.at_⟩
theorem LM.put {w w' : World} {b k : Nat} {ls : List LK} {D : DataW Unit} {l : LK} (h : LM w b k ls D) (hl : ls[k]? = some l) (hlt : l.t < 4294967296) (ho : w'.ownsMap Tryd.prog 34 (plainElem Tryd.prog 3) b (k + 1) (D.put (.int .u32 (l.t : Int)) (.lit (.int .i64 (k : Int))))) : LM w' b (k + 1) ls (D.put (.int .u32 (l.t : Int)) (.lit (.int .i64 (k : Int)))) := by
  refine ⟨ho, h.isM.put _ _, fun t => ?_⟩
  unfold lastTo
  rw [getD_of hl]
  by_cases e : l.t = t
  · subst e
    rw [if_pos rfl, Maps.atKey_put_same h.isM (keyed34.key (Maps.keyOf_int_mk (P := Tryd.prog) Tryd.underlying34 (wf32 hlt)))]
  · rw [if_neg e, Maps.atKey_put_other (fun e' => e (by injection e' with _ e'; omega))]
    exact h.at_ t
theorem LM.val {w : World} {b k j : Nat} {ls : List LK} {D : DataW Unit} {t : Nat} {cc : Int} (h : LM w b k ls D) (hat : D.atKey (.int .u32 (t : Int)) (.lit (.int .i64 0)) = .lit (.int .i64 cc)) (hn : k = ls.length) (hl : lastTo ls t ls.length = lastsF ls j) : cc = ((lastsF ls j : Nat) : Int) := by
  have hcc := h.at_ t
  rw [hat, hn, hl] at hcc
  injection hcc with hcc
  injection hcc
def fillF (f : Nat → Nat) (n k : Nat) : List Nat := (List.range k).map f ++ List.replicate (n - k) 0
theorem fillF_len {f : Nat → Nat} {n k : Nat} (h : k ≤ n) : (fillF f n k).length = n := by rw [fillF, List.length_append, List.length_map, List.length_range, List.length_replicate]; omega
theorem fillF_at {f : Nat → Nat} {n k : Nat} (h : k < n) : (fillF f n k)[k]? = some 0 := by
  rw [fillF, List.getElem?_append_right (by simp), List.length_map, List.length_range, Nat.sub_self, show n - k = (n - (k + 1)) + 1 by omega, List.replicate_succ]
  rfl
theorem fillF_set {f : Nat → Nat} {n k : Nat} (h : k < n) : (fillF f n k).set k (f k) = fillF f n (k + 1) := by
  rw [fillF, fillF, List.set_append_right _ _ (by simp), List.length_map, List.length_range, Nat.sub_self, List.range_succ, List.map_append, List.append_assoc, show n - k = (n - (k + 1)) + 1 by omega, List.replicate_succ, List.set_cons_zero]
  rfl
def lastsM (ls : List LK) : List Nat := (List.range ls.length).map (lastsF ls)
theorem lastsM_at {ls : List LK} {i : Nat} (h : i < ls.length) : (lastsM ls)[i]? = some (lastsF ls i) := by rw [lastsM, List.getElem?_map, List.getElem?_range h]; rfl
set_option maxRecDepth 100000 in
set_option maxHeartbeats 2000000 in
theorem lasts_any (g : Nat) (A : Option Addr) (c : Nat) (ls : List LK) (w : World) (hT : TR w g A c ls) :
    Calls Tryd.prog 61 #[.pointer (some ⟨g, 0, none⟩)] w fun e w' => ∃ B, e = .returned (.slice (some ⟨B, 0, none⟩) ls.length ls.length) ∧ OwR w' 3 1 nf (.slice (some ⟨B, 0, none⟩) ls.length ls.length) (lastsM ls) ∧ w.heap.size ≤ B ∧ Below w.heap.size w w' := by
  have hmm := @run_makeMap Tryd.prog
  have HO := Lib.hid (World.ownsMap_made w Tryd.prog 34 (plainElem (H := Unit) Tryd.prog 3))
  obtain ⟨W, hW⟩ : ∃ W, W = w.alloc (.map #[] 0) := ⟨_, rfl⟩
  have HB := Lib.hid (show Below w.heap.size w W by rw [hW]; exact (Below.refl _ _).alloc (Nat.le_refl _) _)
  rw [← hW] at HO
  have HM := Lib.hid (show LM W w.heap.size 0 ls (.map []) from ⟨HO.out, Maps.isMap_empty, fun t => rfl⟩)
  have HT := Lib.hid hT
  have HF := Lib.hid hT.few
  have c0 := (hT.blk.below HB.out hT.blk.lt).cell 0
  simp only [List.getElem?_toArray, List.getElem?_cons_zero] at c0
  obtain ⟨n, hn⟩ : ∃ n, n = ls.length := ⟨_, rfl⟩
  rw [← hn] at c0
  have HN := Lib.hid hn
  clear hT hn HO
  obtain ⟨b, hb⟩ : ∃ b, b = w.heap.size := ⟨_, rfl⟩
  have HBE := Lib.hid hb
  rw [← hb] at HM
  go_enter Tryd.func61, Tryd.ntmps61
  go_upto_region 2 with fail
  rw [← hW, ← hb]
  clear hW hb
  go_wp2_with fail
  go_loopw [15] (fun i wr => ∃ (k : Nat) (D : DataW Unit), k ≤ n ∧ i = .int .i64 (k : Int) ∧ LM wr b k ls D ∧ Fr W wr fun x => x = b) (fun i _ => n - (intOf i).toNat)
  case atStart => exact ⟨0, _, by omega, rfl, HM.out, Fr.refl _ _⟩
  case round =>
    obtain ⟨k, D, hk, rfl, hm, hf⟩ := hrel
    have HMK := Lib.hid hm
    have HFK := Lib.hid hf
    have HBW := Lib.hid (show RowKit.Below w.heap.size w wr from HB.out.trans (hf.below (fun x e => by have := HBE.out; omega) HB.out.size))
    by_cases hlt : k < n
    · have hl : ls[k]? = some (ls[k]'(by have := HN.out; omega)) := List.getElem?_eq_getElem _
      generalize ls[k]'(by have := HN.out; omega) = l at hl
      obtain ⟨bl, rfl, hcs⟩ := HT.out.row k l hl
      obtain ⟨z0, z1, z2, z3, z4, z5, z6⟩ := hcs.up HBW.out
      have HL := Lib.hid hl
      have HLT := Lib.hid (HT.out.ok l (List.mem_of_getElem? hl)).t
      have HKY := Lib.hid (Maps.keyOf_int_mk (P := Tryd.prog) Tryd.underlying34 (wf32 HLT.out))
      have HEL := Lib.hid (plainElem_int (H := Unit) (P := Tryd.prog) (e := 3) Tryd.underlying3 (wf64 (n := k) (by have := HF.out; have := HN.out; omega)))
      have hin : ((k : Int) < (n : Int)) := by omega
      have e1 : IntKind.i64.wrap ((k : Int) + 1) = ((k + 1 : Nat) : Int) := by rw [IntWalk.i64_in _ (by have := HF.out; have := HN.out; omega)]; omega
      have HOW := Lib.hid (ownsMap_fr hm.own ((Fr.refl wr No).alloc (.cells #[.int .u32 (l.t : Int), .bool l.x.r, .int .u32 (l.x.i : Int), .string l.x.a, .string l.x.b, .int .i64 l.m, .bool l.h] 46)) fun h => h)
      clear hm hf hl hcs
      go_wp2_with (at_mapUpdate; go_must (refine wpList_mapUpdate_own _ rfl (.tmp 20) (.tmp 22) (.tmp 23) 91 rfl 34 3 keyed34 Tryd.underlying91 (plainElem Tryd.prog 3) b k D rfl HOW.out (by simp only [maxLen]; have := HF.out; have := HN.out; omega) _ _ _ rfl rfl HKY.out _ _ HEL.out ?_); intro W2 hown2 hgrow2; have HM2 := Lib.hid (HMK.out.put HL.out HLT.out hown2); have HF2 := Lib.hid ((HFK.out.alloc _).grown hgrow2 fun x e => Or.inl (Option.some.inj e).symm); clear hown2 hgrow2)
      go_roundw
      case rel => exact ⟨k + 1, _, by omega, by go_num, HM2.out, HF2.out⟩
      case measure => simp [intOf]; omega
    · obtain rfl : k = n := by omega
      have hin : ¬ ((k : Int) < (k : Int)) := by omega
      obtain ⟨W3, hmk, hown, hbm⟩ := make_ints wr k (by have := HF.out; have := HN.out; omega)
      have c1 := (HT.out.blk.below HBW.out HT.out.blk.lt).cell 0
      have c2 := (HT.out.blk.below (below_trans HBW.out hbm) HT.out.blk.lt).cell 0
      simp only [List.getElem?_toArray, List.getElem?_cons_zero] at c1 c2
      rw [← HN.out] at c1 c2
      have HO3 := Lib.hid hown
      have HB3 := Lib.hid (below_trans HBW.out hbm)
      have HM3 := Lib.hid (HMK.out.fr (Fr.of_below hbm No) fun h => h)
      obtain ⟨B, hB⟩ : ∃ B, B = wr.heap.size := ⟨_, rfl⟩
      rw [← hB] at hmk HO3
      have HBB := Lib.hid (show b < B by rw [hB]; have := HBE.out; obtain ⟨es, clock, h1, _⟩ := HMK.out.own; exact (Array.getElem?_eq_some_iff.1 h1).1)
      have HBZ := Lib.hid (show w.heap.size ≤ B by rw [hB]; exact HBW.out.size)
      clear hm hf c0 hown hbm hB
      go_wp2_with fail
      clear c1 c2 hmk
      go_loopw [36] (fun i wi => ∃ j : Nat, j ≤ k ∧ i = .int .i64 (j : Int) ∧ OwR wi 3 1 nf (.slice (some ⟨B, 0, none⟩) k k) (fillF (lastsF ls) k j) ∧ Fr W3 wi fun x => x = B) (fun i _ => k - (intOf i).toNat)
      case atStart => exact ⟨0, by omega, rfl, by rw [fillF]; exact HO3.out, Fr.refl _ _⟩
      case round =>
        obtain ⟨j, hj, rfl, ho, hf⟩ := hrel
        have HOJ := Lib.hid ho
        have HFJ := Lib.hid hf
        have HBJ := Lib.hid (show RowKit.Below w.heap.size w wr from HB3.out.trans (hf.below (fun x e => by have := HBZ.out; omega) HB3.out.size))
        by_cases hlt2 : j < k
        · have hl : ls[j]? = some (ls[j]'(by have := HN.out; omega)) := List.getElem?_eq_getElem _
          generalize ls[j]'(by have := HN.out; omega) = l at hl
          obtain ⟨bl, rfl, hcs⟩ := HT.out.row j l hl
          obtain ⟨z0, z1, z2, z3, z4, z5, z6⟩ := hcs.up HBJ.out
          have hbl : bl < w.heap.size := hcs.lt
          have HLT := Lib.hid (HT.out.ok l (List.mem_of_getElem? hl)).t
          have HKY := Lib.hid (Maps.keyOf_int_mk (P := Tryd.prog) Tryd.underlying34 (wf32 HLT.out))
          have HMJ := Lib.hid ((HM3.out.fr hf (by have := HBB.out; omega)).fr ((Fr.refl wr No).alloc (.cells #[.int .u32 (l.t : Int), .bool l.x.r, .int .u32 (l.x.i : Int), .string l.x.a, .string l.x.b, .int .i64 l.m, .bool l.h] 46)) fun h => h)
          obtain ⟨h1, h2, h3⟩ := ints_set ho (fillF_len hj) hlt2 (lastsF ls j) (fillF_at hlt2)
          rw [fillF_set hlt2] at h3
          have hbz := ho.lt rfl
          have HO4 := Lib.hid (h3.up ((Below.refl _ _).alloc (Nat.le_refl _) (.cells #[.int .u32 (l.t : Int), .bool l.x.r, .int .u32 (l.x.i : Int), .string l.x.a, .string l.x.b, .int .i64 l.m, .bool l.h] 46)))
          have HF4 := Lib.hid ((hf.setCell (p := ⟨B, j, none⟩) (Or.inl rfl) (.int .i64 ((lastsF ls j : Nat) : Int))).alloc (.cells #[.int .u32 (l.t : Int), .bool l.x.r, .int .u32 (l.x.i : Int), .string l.x.a, .string l.x.b, .int .i64 l.m, .bool l.h] 46))
          have HLF := Lib.hid (show lastTo ls l.t ls.length = lastsF ls j by rw [lastsF, getD_of hl])
          have hin : ((j : Int) < (k : Int)) := by omega
          have e1 : IntKind.i64.wrap ((j : Int) + 1) = ((j + 1 : Nat) : Int) := by rw [IntWalk.i64_in _ (by have := HF.out; have := HN.out; omega)]; omega
          clear ho hf hl hcs h3
          go_wp2_with (at_lookup; go_must (refine wpList_lookup_own_int _ rfl (.tmp 43) (.tmp 45) 91 rfl 34 3 .i64 keyed34 Tryd.underlying91 Tryd.underlying3 rfl b k D rfl HMJ.out.own _ _ rfl HKY.out ?_); intro cc hat hwc; obtain rfl : cc = ((lastsF ls j : Nat) : Int) := HMJ.out.val hat HN.out HLF.out)
          go_roundw
          case rel => exact ⟨j + 1, by omega, by go_num, HO4.out, HF4.out⟩
          case measure => simp [intOf]; omega
        · obtain rfl : j = k := by omega
          have hin : ¬ ((j : Int) < (j : Int)) := by omega
          have HE := Lib.hid (show fillF (lastsF ls) j j = lastsM ls by rw [fillF, Nat.sub_self, lastsM, ← HN.out]; simp)
          clear ho hf
          go_wp2_with fail
          go_ret
          refine ⟨B, by rw [← HN.out]; rfl, ?_, HBZ.out, HBJ.out⟩
          rw [← HN.out, ← HE.out]
          exact HOJ.out
end Go.Proofs.YtlblgfpafdfilaaDoor
