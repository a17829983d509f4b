/-
STAGE 12: lasts. STAGE 12: who is in a ring: the program's way as a function; what lies in memory meanwhile.
-/
import Derived.Test.YtlblgfpafdfilaaDoorLT
import Derived.Maps.OwnSet
import Derived.Maps.OwnOps
namespace Go.Proofs.YtlblgfpafdfilaaDoor
open Go.RowKit Go.Sort

/-- the place of the last lock of t among the first k -/
def lastTo (ls : List LK) (t : Nat) : Nat → Nat
  | 0 => 0
  | k + 1 => if (ls.getD k okz).t = t then k else lastTo ls t k
def lastsF (ls : List LK) (i : Nat) : Nat := lastTo ls (ls.getD i okz).t ls.length
theorem lastTo_le (ls : List LK) (t : Nat) : ∀ k, lastTo ls t k ≤ k
  | 0 => Nat.le_refl _
  | k + 1 => by
    unfold lastTo
    have := lastTo_le ls t k
    split <;> omega
theorem keyed34 : Maps.Keyed Tryd.prog 34 := Maps.int_keyed Tryd.underlying34
theorem wf32 {n : Nat} (h : n < 4294967296) : (Lit.int .u32 (n : Int)).wf = true := WalkArith.wf_u32 (by omega)
theorem wf64 {n : Nat} (h : n ≤ 16384) : (Lit.int .i64 (n : Int)).wf = true := by
  refine WalkArith.wf_i64 ?_
  omega
theorem ownsMap_fr {H : Type} {w w' : World} {k : TypeId} {R : Value → Option (DataW H × List MemPlace)} {b n : Nat} {D : DataW H} {S : Nat → Prop} (h : w.ownsMap Tryd.prog k R b n D) (hf : Fr w w' S) (hb : ¬ S b) : w'.ownsMap Tryd.prog k R b n D := by
  obtain ⟨es, clock, h1, h2⟩ := h
  exact ⟨es, clock, (hf.block b (Array.getElem?_eq_some_iff.1 h1).1 hb).trans h1, h2⟩
/-- the map behind k locks -/
structure LM (w : World) (b k : Nat) (ls : List LK) (D : DataW Unit) : Prop where
  own : w.ownsMap Tryd.prog 34 (plainElem Tryd.prog 3) b k D
  isM : Maps.IsMap D
  at_ : ∀ t, D.atKey (.int .u32 ((t : Nat) : Int)) (.lit (.int .i64 0)) = .lit (.int .i64 ((lastTo ls t k : Nat) : Int))
theorem LM.fr {w w' : World} {b k : Nat} {ls : List LK} {D : DataW Unit} {S : Nat → Prop} (h : LM w b k ls D) (hf : Fr w w' S) (hb : ¬ S b) : LM w' b k ls D := ⟨ownsMap_fr h.own hf hb, h.isM, h.at_⟩
theorem LM.put {w w' : World} {b k : Nat} {ls : List LK} {D : DataW Unit} {l : LK} (h : LM w b k ls D) (hl : ls[k]? = some l) (hlt : l.t < 4294967296) (ho : w'.ownsMap Tryd.prog 34 (plainElem Tryd.prog 3) b (k + 1) (D.put (.int .u32 (l.t : Int)) (.lit (.int .i64 (k : Int))))) : LM w' b (k + 1) ls (D.put (.int .u32 (l.t : Int)) (.lit (.int .i64 (k : Int)))) := by
  refine ⟨ho, h.isM.put _ _, fun t => ?_⟩
  unfold lastTo
  rw [getD_of hl]
  by_cases e : l.t = t
  · subst e
    rw [if_pos rfl, Maps.atKey_put_same h.isM (keyed34.key (Maps.keyOf_int_mk (P := Tryd.prog) Tryd.underlying34 (wf32 hlt)))]
  · rw [if_neg e, Maps.atKey_put_other (fun e' => e (by injection e' with _ e'; omega))]
    exact h.at_ t
theorem LM.val {w : World} {b k j : Nat} {ls : List LK} {D : DataW Unit} {t : Nat} {cc : Int} (h : LM w b k ls D) (hat : D.atKey (.int .u32 (t : Int)) (.lit (.int .i64 0)) = .lit (.int .i64 cc)) (hn : k = ls.length) (hl : lastTo ls t ls.length = lastsF ls j) : cc = ((lastsF ls j : Nat) : Int) := by
  have hcc := h.at_ t
  rw [hat, hn, hl] at hcc
  injection hcc with hcc
  injection hcc
def fillF (f : Nat → Nat) (n k : Nat) : List Nat := (List.range k).map f ++ List.replicate (n - k) 0
theorem fillF_len {f : Nat → Nat} {n k : Nat} (h : k ≤ n) : (fillF f n k).length = n := by rw [fillF, List.length_append, List.length_map, List.length_range, List.length_replicate]; omega
theorem fillF_at {f : Nat → Nat} {n k : Nat} (h : k < n) : (fillF f n k)[k]? = some 0 := by
  rw [fillF, List.getElem?_append_right (by simp), List.length_map, List.length_range, Nat.sub_self, show n - k = (n - (k + 1)) + 1 by omega, List.replicate_succ]
  rfl
theorem fillF_set {f : Nat → Nat} {n k : Nat} (h : k < n) : (fillF f n k).set k (f k) = fillF f n (k + 1) := by
  rw [fillF, fillF, List.set_append_right _ _ (by simp), List.length_map, List.length_range, Nat.sub_self, List.range_succ, List.map_append, List.append_assoc, show n - k = (n - (k + 1)) + 1 by omega, List.replicate_succ, List.set_cons_zero]
  rfl
def lastsM (ls : List LK) : List Nat := (List.range ls.length).map (lastsF ls)
theorem lastsM_at {ls : List LK} {i : Nat} (h : i < ls.length) : (lastsM ls)[i]? = some (lastsF ls i) := by rw [lastsM, List.getElem?_map, List.getElem?_range h]; rfl
set_option maxRecDepth 100000 in
set_option maxHeartbeats 2000000 in
theorem lasts_any (g : Nat) (A : Option Addr) (c : Nat) (ls : List LK) (w : World) (hT : TR w g A c ls) :
    Calls Tryd.prog 61 #[.pointer (some ⟨g, 0, none⟩)] w fun e w' => ∃ B, e = .returned (.slice (some ⟨B, 0, none⟩) ls.length ls.length) ∧ OwR w' 3 1 nf (.slice (some ⟨B, 0, none⟩) ls.length ls.length) (lastsM ls) ∧ w.heap.size ≤ B ∧ Below w.heap.size w w' := by
  have hmm := @run_makeMap Tryd.prog
  have HO := Lib.hid (World.ownsMap_made w Tryd.prog 34 (plainElem (H := Unit) Tryd.prog 3))
  obtain ⟨W, hW⟩ : ∃ W, W = w.alloc (.map #[] 0) := ⟨_, rfl⟩
  have HB := Lib.hid (show Below w.heap.size w W by rw [hW]; exact (Below.refl _ _).alloc (Nat.le_refl _) _)
  rw [← hW] at HO
  have HM := Lib.hid (show LM W w.heap.size 0 ls (.map []) from ⟨HO.out, Maps.isMap_empty, fun t => rfl⟩)
  have HT := Lib.hid hT
  have HF := Lib.hid hT.few
  have c0 := (hT.blk.below HB.out hT.blk.lt).cell 0
  simp only [List.getElem?_toArray, List.getElem?_cons_zero] at c0
  obtain ⟨n, hn⟩ : ∃ n, n = ls.length := ⟨_, rfl⟩
  rw [← hn] at c0
  have HN := Lib.hid hn
  clear hT hn HO
  obtain ⟨b, hb⟩ : ∃ b, b = w.heap.size := ⟨_, rfl⟩
  have HBE := Lib.hid hb
  rw [← hb] at HM
  go_enter Tryd.func61, Tryd.ntmps61
  go_upto_region 2 with fail
  rw [← hW, ← hb]
  clear hW hb
  go_wp2_with fail
  go_loopw [15] (fun i wr => ∃ (k : Nat) (D : DataW Unit), k ≤ n ∧ i = .int .i64 (k : Int) ∧ LM wr b k ls D ∧ Fr W wr fun x => x = b) (fun i _ => n - (intOf i).toNat)
  case atStart => exact ⟨0, _, by omega, rfl, HM.out, Fr.refl _ _⟩
  case round =>
    obtain ⟨k, D, hk, rfl, hm, hf⟩ := hrel
    have HMK := Lib.hid hm
    have HFK := Lib.hid hf
    have HBW := Lib.hid (show RowKit.Below w.heap.size w wr from HB.out.trans (hf.below (fun x e => by have := HBE.out; omega) HB.out.size))
    by_cases hlt : k < n
    · have hl : ls[k]? = some (ls[k]'(by have := HN.out; omega)) := List.getElem?_eq_getElem _
      generalize ls[k]'(by have := HN.out; omega) = l at hl
      obtain ⟨bl, rfl, hcs⟩ := HT.out.row k l hl
      obtain ⟨z0, z1, z2, z3, z4, z5, z6⟩ := hcs.up HBW.out
      have HL := Lib.hid hl
      have HLT := Lib.hid (HT.out.ok l (List.mem_of_getElem? hl)).t
      have HKY := Lib.hid (Maps.keyOf_int_mk (P := Tryd.prog) Tryd.underlying34 (wf32 HLT.out))
      have HEL := Lib.hid (plainElem_int (H := Unit) (P := Tryd.prog) (e := 3) Tryd.underlying3 (wf64 (n := k) (by have := HF.out; have := HN.out; omega)))
      have hin : ((k : Int) < (n : Int)) := by omega
      have e1 : IntKind.i64.wrap ((k : Int) + 1) = ((k + 1 : Nat) : Int) := by rw [IntWalk.i64_in _ (by have := HF.out; have := HN.out; omega)]; omega
      have HOW := Lib.hid (ownsMap_fr hm.own ((Fr.refl wr No).alloc (.cells #[.int .u32 (l.t : Int), .bool l.x.r, .int .u32 (l.x.i : Int), .string l.x.a, .string l.x.b, .int .i64 l.m, .bool l.h] 46)) fun h => h)
      clear hm hf hl hcs
      go_wp2_with (at_mapUpdate; go_must (refine wpList_mapUpdate_own _ rfl (.tmp 20) (.tmp 22) (.tmp 23) 91 rfl 34 3 keyed34 Tryd.underlying91 (plainElem Tryd.prog 3) b k D rfl HOW.out (by simp only [maxLen]; have := HF.out; have := HN.out; omega) _ _ _ rfl rfl HKY.out _ _ HEL.out ?_); intro W2 hown2 hgrow2; have HM2 := Lib.hid (HMK.out.put HL.out HLT.out hown2); have HF2 := Lib.hid ((HFK.out.alloc _).grown hgrow2 fun x e => Or.inl (Option.some.inj e).symm); clear hown2 hgrow2)
      go_roundw
      case rel => exact ⟨k + 1, _, by omega, by go_num, HM2.out, HF2.out⟩
      case measure => simp [intOf]; omega
    · obtain rfl : k = n := by omega
      have hin : ¬ ((k : Int) < (k : Int)) := by omega
      obtain ⟨W3, hmk, hown, hbm⟩ := make_ints wr k (by have := HF.out; have := HN.out; omega)
      have c1 := (HT.out.blk.below HBW.out HT.out.blk.lt).cell 0
      have c2 := (HT.out.blk.below (below_trans HBW.out hbm) HT.out.blk.lt).cell 0
      simp only [List.getElem?_toArray, List.getElem?_cons_zero] at c1 c2
      rw [← HN.out] at c1 c2
      have HO3 := Lib.hid hown
      have HB3 := Lib.hid (below_trans HBW.out hbm)
      have HM3 := Lib.hid (HMK.out.fr (Fr.of_below hbm No) fun h => h)
      obtain ⟨B, hB⟩ : ∃ B, B = wr.heap.size := ⟨_, rfl⟩
      rw [← hB] at hmk HO3
      have HBB := Lib.hid (show b < B by rw [hB]; have := HBE.out; obtain ⟨es, clock, h1, _⟩ := HMK.out.own; exact (Array.getElem?_eq_some_iff.1 h1).1)
      have HBZ := Lib.hid (show w.heap.size ≤ B by rw [hB]; exact HBW.out.size)
      clear hm hf c0 hown hbm hB
      go_wp2_with fail
      clear c1 c2 hmk
      go_loopw [36] (fun i wi => ∃ j : Nat, j ≤ k ∧ i = .int .i64 (j : Int) ∧ OwR wi 3 1 nf (.slice (some ⟨B, 0, none⟩) k k) (fillF (lastsF ls) k j) ∧ Fr W3 wi fun x => x = B) (fun i _ => k - (intOf i).toNat)
      case atStart => exact ⟨0, by omega, rfl, by rw [fillF]; exact HO3.out, Fr.refl _ _⟩
      case round =>
        obtain ⟨j, hj, rfl, ho, hf⟩ := hrel
        have HOJ := Lib.hid ho
        have HFJ := Lib.hid hf
        have HBJ := Lib.hid (show RowKit.Below w.heap.size w wr from HB3.out.trans (hf.below (fun x e => by have := HBZ.out; omega) HB3.out.size))
        by_cases hlt2 : j < k
        · have hl : ls[j]? = some (ls[j]'(by have := HN.out; omega)) := List.getElem?_eq_getElem _
          generalize ls[j]'(by have := HN.out; omega) = l at hl
          obtain ⟨bl, rfl, hcs⟩ := HT.out.row j l hl
          obtain ⟨z0, z1, z2, z3, z4, z5, z6⟩ := hcs.up HBJ.out
          have hbl : bl < w.heap.size := hcs.lt
          have HLT := Lib.hid (HT.out.ok l (List.mem_of_getElem? hl)).t
          have HKY := Lib.hid (Maps.keyOf_int_mk (P := Tryd.prog) Tryd.underlying34 (wf32 HLT.out))
          have HMJ := Lib.hid ((HM3.out.fr hf (by have := HBB.out; omega)).fr ((Fr.refl wr No).alloc (.cells #[.int .u32 (l.t : Int), .bool l.x.r, .int .u32 (l.x.i : Int), .string l.x.a, .string l.x.b, .int .i64 l.m, .bool l.h] 46)) fun h => h)
          obtain ⟨h1, h2, h3⟩ := ints_set ho (fillF_len hj) hlt2 (lastsF ls j) (fillF_at hlt2)
          rw [fillF_set hlt2] at h3
          have hbz := ho.lt rfl
          have HO4 := Lib.hid (h3.up ((Below.refl _ _).alloc (Nat.le_refl _) (.cells #[.int .u32 (l.t : Int), .bool l.x.r, .int .u32 (l.x.i : Int), .string l.x.a, .string l.x.b, .int .i64 l.m, .bool l.h] 46)))
          have HF4 := Lib.hid ((hf.setCell (p := ⟨B, j, none⟩) (Or.inl rfl) (.int .i64 ((lastsF ls j : Nat) : Int))).alloc (.cells #[.int .u32 (l.t : Int), .bool l.x.r, .int .u32 (l.x.i : Int), .string l.x.a, .string l.x.b, .int .i64 l.m, .bool l.h] 46))
          have HLF := Lib.hid (show lastTo ls l.t ls.length = lastsF ls j by rw [lastsF, getD_of hl])
          have hin : ((j : Int) < (k : Int)) := by omega
          have e1 : IntKind.i64.wrap ((j : Int) + 1) = ((j + 1 : Nat) : Int) := by rw [IntWalk.i64_in _ (by have := HF.out; have := HN.out; omega)]; omega
          clear ho hf hl hcs h3
          go_wp2_with (at_lookup; go_must (refine wpList_lookup_own_int _ rfl (.tmp 43) (.tmp 45) 91 rfl 34 3 .i64 keyed34 Tryd.underlying91 Tryd.underlying3 rfl b k D rfl HMJ.out.own _ _ rfl HKY.out ?_); intro cc hat hwc; obtain rfl : cc = ((lastsF ls j : Nat) : Int) := HMJ.out.val hat HN.out HLF.out)
          go_roundw
          case rel => exact ⟨j + 1, by omega, by go_num, HO4.out, HF4.out⟩
          case measure => simp [intOf]; omega
        · obtain rfl : j = k := by omega
          have hin : ¬ ((j : Int) < (j : Int)) := by omega
          have HE := Lib.hid (show fillF (lastsF ls) j j = lastsM ls by rw [fillF, Nat.sub_self, lastsM, ← HN.out]; simp)
          clear ho hf
          go_wp2_with fail
          go_ret
          refine ⟨B, by rw [← HN.out]; rfl, ?_, HBZ.out, HBJ.out⟩
          rw [← HN.out, ← HE.out]
          exact HOJ.out
end Go.Proofs.YtlblgfpafdfilaaDoor
namespace Go.Proofs.YtlblgfpafdfilaaDoor
open Go.RowKit Go.Sort

structure FSt where
  N : List Nat
  O : List Nat
  m : Nat
  v : Nat
def closedN : Nat := 9223372036854775807
/-- a ring's places are closed, and told where they are more than one -/
def closeM (ls : List LK) (many : Bool) : List Nat → FSt → FSt
  | [], s => s
  | p :: r, s => closeM ls many r { s with N := s.N.set p closedN, v := if many = true then max s.v (ls.getD p okz).t else s.v }
def endM (ls : List LK) (number from_ : Nat) (x : FSt × Nat) : Option (FSt × Nat) :=
  if x.2 < number then some x else if x.1.O.length ≤ from_ then none else
    some (closeM ls (decide (1 < x.1.O.length - from_)) (x.1.O.drop from_) { x.1 with O := x.1.O.take from_ }, number)
def stepM (go : Nat → FSt → Option (FSt × Nat)) (ls : List LK) (q : LK) (p : Nat) (k : Nat) (x : FSt × Nat) : Option (FSt × Nat) :=
  if waitM (ls.any (passP q)) q p (ls.getD k okz) k = true then
    (if x.1.N.getD (lastsF ls k) 0 = 0 then (go (lastsF ls k) x.1).bind fun y => some (y.1, min (min x.2 y.2) (y.1.N.getD (lastsF ls k) 0)) else some (x.1, min x.2 (x.1.N.getD (lastsF ls k) 0)))
  else some x
def loopM (go : Nat → FSt → Option (FSt × Nat)) (ls : List LK) (q : LK) (p : Nat) (x : FSt × Nat) : Nat → Option (FSt × Nat)
  | 0 => some x
  | k + 1 => (loopM go ls q p x k).bind (stepM go ls q p k)
def followM (ls : List LK) : Nat → Nat → FSt → Option (FSt × Nat)
  | 0, _, _ => none
  | f + 1, p, s => if 16384 ≤ s.m then none else
    (loopM (followM ls f) ls (ls.getD p okz) p (⟨s.N.set p (s.m + 1), s.O ++ [p], s.m + 1, s.v⟩, s.m + 1) ls.length).bind (endM ls (s.m + 1) s.O.length)
def ringsM (ls : List LK) (f : Nat) : Nat → Option FSt
  | 0 => some ⟨List.replicate ls.length 0, [], 0, 0⟩
  | k + 1 => (ringsM ls f k).bind fun s => if ((ls.getD k okz).h = false ∧ s.N.getD k 0 = 0) then (followM ls f k s).map Prod.fst else some s
theorem loopM_none {go : Nat → FSt → Option (FSt × Nat)} {ls : List LK} {q : LK} {p : Nat} {x : FSt × Nat} {k : Nat} (h : loopM go ls q p x k = none) : ∀ m, k ≤ m → loopM go ls q p x m = none
  | 0, hm => by obtain rfl : k = 0 := by omega
                exact h
  | m + 1, hm => by
    rcases Nat.lt_or_ge k (m + 1) with h1 | h1
    · unfold loopM
      rw [loopM_none h m (by omega)]
      rfl
    · obtain rfl : k = m + 1 := by omega
      exact h
/-- the blocks of the walk over rings -/
structure FB where
  g : Nat
  A : Option Addr
  c : Nat
  a1 : Nat
  a2 : Nat
  a3 : Nat
  a4 : Nat
  a5 : Nat
  a6 : Nat
  a7 : Nat
  a8 : Nat
  a9 : Nat
  nb : Nat
  lb : Nat
def FB.caps (B : FB) : Array Value := #[.pointer (some ⟨B.a1, 0, none⟩), .pointer (some ⟨B.a2, 0, none⟩), .pointer (some ⟨B.a3, 0, none⟩), .pointer (some ⟨B.a4, 0, none⟩), .pointer (some ⟨B.a5, 0, none⟩), .pointer (some ⟨B.a6, 0, none⟩), .pointer (some ⟨B.a7, 0, none⟩)]
structure FB.Ord (B : FB) : Prop where
  o1 : B.a8 < B.a4
  o2 : B.a4 < B.a7
  o3 : B.a7 < B.lb
  o4 : B.lb < B.a5
  o5 : B.a5 < B.nb
  o6 : B.nb < B.a3
  o7 : B.a3 < B.a2
  o8 : B.a2 < B.a1
  o9 : B.a1 < B.a6
  og : B.g < B.a8
  o0 : B.a9 < B.a8
  o2' : 2 ≤ B.a8
/-- what stays throughout -/
structure FX (w : World) (B : FB) (ls : List LK) : Prop where
  bn : Blk w B.a3 61 #[.slice (some ⟨B.nb, 0, none⟩) ls.length ls.length]
  bt : Blk w B.a4 25 #[.pointer (some ⟨B.g, 0, none⟩)]
  bl : Blk w B.a5 61 #[.slice (some ⟨B.lb, 0, none⟩) ls.length ls.length]
  ol : OwR w 3 1 nf (.slice (some ⟨B.lb, 0, none⟩) ls.length ls.length) (lastsM ls)
  bf : Blk w B.a6 82 #[.func (.func 62) #[] B.caps]
  bc : Blk w B.a7 68 #[.func (.func 37) #[] #[.pointer (some ⟨B.a8, 0, none⟩), .pointer (some ⟨B.a9, 0, none⟩)]]
  b9 : Blk w B.a9 25 #[.pointer (some ⟨B.g, 0, none⟩)]
  tr : TR w B.g B.A B.c ls
  tb : ∀ b, B.A = some ⟨b, 0, none⟩ → ls.length = 0 ∨ b < B.a8
  gw : Gw w
  ord : B.Ord
structure FS (w : World) (B : FB) (ls : List LK) (ov : Value) (s : FSt) : Prop where
  fx : FX w B ls
  bm : Blk w B.a1 3 #[.int .i64 (s.m : Int)]
  bo : Blk w B.a2 61 #[ov]
  oo : OwR w 3 1 nf ov s.O
  on_ : OwR w 3 1 nf (.slice (some ⟨B.nb, 0, none⟩) ls.length ls.length) s.N
  bv : Blk w B.a8 34 #[.int .u32 (s.v : Int)]
  new : ∀ b, ov.ownBlock = some b → B.a6 < b
  nl : s.N.length = ls.length
  ol_ : ∀ x ∈ s.O, x < ls.length
  om : s.O.length ≤ s.m
  mm : s.m ≤ 16384
  vv : s.v < 4294967296
/-- what such a call changes -/
structure FC (w w' : World) (B : FB) (ov ov' : Value) : Prop where
  fr : Fr w w' fun b => b = B.a1 ∨ b = B.a2 ∨ b = B.nb ∨ b = B.a8 ∨ ov.ownBlock = some b
  own : ∀ b, ov'.ownBlock = some b → ov.ownBlock = some b ∨ w.heap.size ≤ b
theorem FC.refl (w : World) (B : FB) (ov : Value) : FC w w B ov ov := ⟨Fr.refl _ _, fun _ h => Or.inl h⟩
theorem FC.trans {w w1 w2 : World} {B : FB} {ov ov1 ov2 : Value} (h : FC w w1 B ov ov1) (k : FC w1 w2 B ov1 ov2) : FC w w2 B ov ov2 := by
  refine ⟨h.fr.trans k.fr fun b hb => ?_, fun b hb => ?_⟩
  · rcases hb with hb | hb | hb | hb | hb
    · exact Or.inl (Or.inl hb)
    · exact Or.inl (Or.inr (Or.inl hb))
    · exact Or.inl (Or.inr (Or.inr (Or.inl hb)))
    · exact Or.inl (Or.inr (Or.inr (Or.inr (Or.inl hb))))
    · exact (h.own b hb).imp (fun h => Or.inr (Or.inr (Or.inr (Or.inr h)))) id
  · rcases k.own b hb with hb | hb
    · exact h.own b hb
    · exact Or.inr (Nat.le_trans h.fr.size hb)
theorem FC.below {w w' : World} (B : FB) (ov : Value) (hb : RowKit.Below w.heap.size w w') : FC w w' B ov ov := ⟨Fr.of_below hb _, fun _ h => Or.inl h⟩
theorem TR.keep {w w' : World} {g : Nat} {A : Option Addr} {c : Nat} {ls : List LK} {U : Nat → Prop} (h : TR w g A c ls) (hf : Fr w w' U) (hg : ¬ U g) (hA : ∀ b, A = some ⟨b, 0, none⟩ → ls.length = 0 ∨ ¬ U b) : TR w' g A c ls := by
  refine ⟨h.blk.keep hf hg, fun i l hi => ?_, h.ok, h.few, h.le⟩
  obtain ⟨b, e, hc⟩ := h.row i l hi
  refine ⟨b, e, hc.block (hf.block b hc.lt ?_)⟩
  rcases hA b e with h0 | h0
  · have := (List.getElem?_eq_some_iff.1 hi).1
    omega
  · exact h0
theorem ob {x n c b : Nat} (e : (Value.slice (some ⟨x, 0, none⟩) n c).ownBlock = some b) : b = x := (Option.some.inj e).symm
theorem FX.keep {w w' : World} {B : FB} {ls : List LK} {U : Nat → Prop} (h : FX w B ls) (hf : Fr w w' U) (hU : ∀ b, U b → b = B.a1 ∨ b = B.a2 ∨ b = B.nb ∨ b = B.a8 ∨ B.a6 < b) : FX w' B ls := by
  obtain ⟨o1, o2, o3, o4, o5, o6, o7, o8, o9, og, o0, o2'⟩ := h.ord
  have k : ∀ {a : Nat}, a ≠ B.a1 → a ≠ B.a2 → a ≠ B.nb → a ≠ B.a8 → a ≤ B.a6 → ¬ U a := fun h1 h2 h3 h4 h5 hu => by
    rcases hU _ hu with h | h | h | h | h <;> omega
  refine ⟨h.bn.keep hf (k (by omega) (by omega) (by omega) (by omega) (by omega)), h.bt.keep hf (k (by omega) (by omega) (by omega) (by omega) (by omega)), h.bl.keep hf (k (by omega) (by omega) (by omega) (by omega) (by omega)),
    h.ol.keep hf (fun b e => k (by have e' := ob e; omega) (by have e' := ob e; omega) (by have e' := ob e; omega) (by have e' := ob e; omega) (by have e' := ob e; omega)), h.bf.keep hf (k (by omega) (by omega) (by omega) (by omega) (by omega)), h.bc.keep hf (k (by omega) (by omega) (by omega) (by omega) (by omega)),
    h.b9.keep hf (k (by omega) (by omega) (by omega) (by omega) (by omega)), h.tr.keep hf (k (by omega) (by omega) (by omega) (by omega) (by omega)) (fun b e => ?_), h.tb, h.gw.keep hf (fun b hb => by rcases hU b hb with h | h | h | h | h <;> omega), h.ord⟩
  rcases h.tb b e with h0 | h0
  · exact Or.inl h0
  · exact Or.inr (k (by omega) (by omega) (by omega) (by omega) (by omega))
theorem FX.up {w w' : World} {B : FB} {ls : List LK} (h : FX w B ls) (hb : RowKit.Below w.heap.size w w') : FX w' B ls := h.keep (Fr.of_below hb No) fun _ h => h.elim
theorem FS.up {w w' : World} {B : FB} {ls : List LK} {ov : Value} {s : FSt} (h : FS w B ls ov s) (hb : RowKit.Below w.heap.size w w') : FS w' B ls ov s :=
  ⟨h.fx.up hb, h.bm.below hb h.bm.lt, h.bo.below hb h.bo.lt, h.oo.up hb, h.on_.up hb, h.bv.below hb h.bv.lt, h.new, h.nl, h.ol_, h.om, h.mm, h.vv⟩
theorem fr1 (w : World) (a i : Nat) (u : Value) : Fr w (w.setCell ⟨a, i, none⟩ u) fun b => b = a := fr_set (Fr.refl _ _) i u
/-- how many were met -/
theorem FS.setM {w : World} {B : FB} {ls : List LK} {ov : Value} {s : FSt} (h : FS w B ls ov s) (m : Nat) (h1 : s.O.length ≤ m) (h2 : m ≤ 16384) : FS (w.setCell ⟨B.a1, 0, none⟩ (.int .i64 (m : Int))) B ls ov { s with m := m } ∧ FC w (w.setCell ⟨B.a1, 0, none⟩ (.int .i64 (m : Int))) B ov ov := by
  have hf := fr1 w B.a1 0 (.int .i64 (m : Int))
  obtain ⟨o1, o2, o3, o4, o5, o6, o7, o8, o9, og, o0, o2'⟩ := h.fx.ord
  exact ⟨⟨h.fx.keep hf fun b e => Or.inl e, h.bm.set_ 0 _, h.bo.keep hf (by omega), h.oo.keep hf (fun b e => by have := h.new b e; omega), h.on_.keep hf (fun b e => by have e' := ob e; omega), h.bv.keep hf (by omega), h.new, h.nl, h.ol_, h1, h2, h.vv⟩, hf.mono fun b _ e => Or.inl e, fun b e => Or.inl e⟩
theorem FS.setN {w : World} {B : FB} {ls : List LK} {ov : Value} {s : FSt} (h : FS w B ls ov s) (i y : Nat) (hi : i < ls.length) :
    w.frozen? ⟨B.nb, i, none⟩ = false ∧ w.cell? ⟨B.nb, i, none⟩ = some (.int .i64 ((s.N.getD i 0 : Nat) : Int)) ∧ FS (w.setCell ⟨B.nb, i, none⟩ (.int .i64 (y : Int))) B ls ov { s with N := s.N.set i y } ∧ FC w (w.setCell ⟨B.nb, i, none⟩ (.int .i64 (y : Int))) B ov ov := by
  have hf := fr1 w B.nb i (.int .i64 (y : Int))
  have hx : s.N[i]? = some (s.N.getD i 0) := by rw [List.getD_eq_getElem?_getD, List.getElem?_eq_getElem (by rw [h.nl]; exact hi)]; rfl
  obtain ⟨h1, h2, h3⟩ := ints_set h.on_ h.nl hi y hx
  obtain ⟨o1, o2, o3, o4, o5, o6, o7, o8, o9, og, o0, o2'⟩ := h.fx.ord
  exact ⟨h2, h1, ⟨h.fx.keep hf fun b e => Or.inr (Or.inr (Or.inl e)), h.bm.keep hf (by omega), h.bo.keep hf (by omega), h.oo.keep hf (fun b e => by have := h.new b e; omega), h3, h.bv.keep hf (by omega), h.new, by rw [List.length_set]; exact h.nl, h.ol_, h.om, h.mm, h.vv⟩, hf.mono fun b _ e => Or.inr (Or.inr (Or.inl e)), fun b e => Or.inl e⟩
theorem FS.setV {w : World} {B : FB} {ls : List LK} {ov : Value} {s : FSt} (h : FS w B ls ov s) (v : Nat) (h1 : v < 4294967296) : FS (w.setCell ⟨B.a8, 0, none⟩ (.int .u32 (v : Int))) B ls ov { s with v := v } ∧ FC w (w.setCell ⟨B.a8, 0, none⟩ (.int .u32 (v : Int))) B ov ov := by
  have hf := fr1 w B.a8 0 (.int .u32 (v : Int))
  obtain ⟨o1, o2, o3, o4, o5, o6, o7, o8, o9, og, o0, o2'⟩ := h.fx.ord
  exact ⟨⟨h.fx.keep hf fun b e => Or.inr (Or.inr (Or.inr (Or.inl e))), h.bm.keep hf (by omega), h.bo.keep hf (by omega), h.oo.keep hf (fun b e => by have := h.new b e; omega), h.on_.keep hf (fun b e => by have e' := ob e; omega), h.bv.set_ 0 _, h.new, h.nl, h.ol_, h.om, h.mm, h1⟩, hf.mono fun b _ e => Or.inr (Or.inr (Or.inr (Or.inl e))), fun b e => Or.inl e⟩
/-- another row of open places, which stands in a world where only the old row has changed -/
theorem FS.setO {w w1 : World} {B : FB} {ls : List LK} {ov ov' : Value} {s : FSt} {O : List Nat} (h : FS w B ls ov s) (hf1 : Fr w w1 fun b => ov.ownBlock = some b) (ho : OwR w1 3 1 nf ov' O) (hb : ∀ b, ov'.ownBlock = some b → ov.ownBlock = some b ∨ w.heap.size ≤ b) (hO : ∀ x ∈ O, x < ls.length) (hl : O.length ≤ s.m) :
    FS (w1.setCell ⟨B.a2, 0, none⟩ ov') B ls ov' { s with O := O } ∧ FC w (w1.setCell ⟨B.a2, 0, none⟩ ov') B ov ov' ∧ Blk w1 B.a2 61 #[ov] := by
  have hf2 := fr1 w1 B.a2 0 ov'
  obtain ⟨o1, o2, o3, o4, o5, o6, o7, o8, o9, og, o0, o2'⟩ := h.fx.ord
  have hnew : ∀ b, ov'.ownBlock = some b → B.a6 < b := fun b e => by
    rcases hb b e with e | e
    · exact h.new b e
    · have := h.fx.bf.lt; omega
  have hf : Fr w (w1.setCell ⟨B.a2, 0, none⟩ ov') fun b => b = B.a2 ∨ ov.ownBlock = some b := (hf1.mono fun b _ e => Or.inr e).same (hf2.mono fun b _ e => Or.inl e)
  have hk : ∀ {a : Nat}, a ≠ B.a2 → a ≤ B.a6 → ¬ (a = B.a2 ∨ ov.ownBlock = some a) := fun h1 h2 hu => by
    rcases hu with hu | hu
    · exact h1 hu
    · have := h.new _ hu; omega
  have hb2 : Blk w1 B.a2 61 #[ov] := h.bo.keep hf1 fun e => by have := h.new _ e; omega
  exact ⟨⟨h.fx.keep hf (fun b e => e.elim (fun e => Or.inr (Or.inl e)) fun e => Or.inr (Or.inr (Or.inr (Or.inr (h.new b e))))), h.bm.keep hf (hk (by omega) (by omega)), hb2.set_ 0 _, ho.keep hf2 (fun b e e' => by have := hnew b e; omega), h.on_.keep hf (fun b e => by have e' := ob e; subst e'; exact hk (by omega) (by omega)), h.bv.keep hf (hk (by omega) (by omega)), hnew, h.nl, hO, hl, h.mm, h.vv⟩,
    ⟨hf.mono fun b _ e => e.elim (fun e => Or.inr (Or.inl e)) fun e => Or.inr (Or.inr (Or.inr (Or.inr e))), hb⟩, hb2⟩
/-- a shorter slice of the same row -/
theorem OwR.cut {α : Type} {f : α → List Value} {k : Nat} {w : World} {e : TypeId} {b n c : Nat} {l : List α} (h : OwR w e k f (.slice (some ⟨b, 0, none⟩) n c) l) (hk : ∀ x, (f x).length = k) {m : Nat} (hm : m ≤ l.length) : OwR w e k f (.slice (some ⟨b, 0, none⟩) m c) (l.take m) := by
  have hl : (l.take m).length = m := by rw [List.length_take]; omega
  rcases h.2 with ⟨e', _⟩ | ⟨g, cap, cur, e', h0, hg, hc, hm', hcs, ht⟩
  · cases e'
  · injection e' with e1 e2 e3
    injection e1 with e1
    injection e1 with e1
    subst e1 e3 e2
    unfold OwR
    rw [hl]
    have hle : m * k ≤ l.length * k := Nat.mul_le_mul_right k hm
    refine ⟨by rw [flat_len hk, hl], Or.inr ⟨b, c, cur, rfl, h0, hg, Nat.le_trans hm hc, hm', hcs, ?_⟩⟩
    have h1 : cur.toList.take (m * k) = (l.flatMap f).take (m * k) := by rw [← ht, List.take_take, Nat.min_eq_left hle]
    rw [h1]
    have h2 : l.flatMap f = (l.take m).flatMap f ++ (l.drop m).flatMap f := by rw [← List.flatMap_append, List.take_append_drop]
    have h3 : ((l.take m).flatMap f).length = m * k := by rw [flat_len hk, hl]
    rw [h2, List.take_append_of_le_length (by rw [h3]; exact Nat.le_refl _), List.take_of_length_le (by rw [h3]; exact Nat.le_refl _)]
theorem closeM_snoc (ls : List LK) (many : Bool) (p : Nat) : ∀ (l : List Nat) (s : FSt), closeM ls many (l ++ [p]) s = { closeM ls many l s with N := (closeM ls many l s).N.set p closedN, v := if many = true then max (closeM ls many l s).v (ls.getD p okz).t else (closeM ls many l s).v }
  | [], s => rfl
  | q :: r, s => by rw [List.cons_append, closeM, closeM_snoc ls many p r, closeM]
theorem closeM_take {ls : List LK} {many : Bool} {l : List Nat} {j p : Nat} (h : l[j]? = some p) (s : FSt) : closeM ls many (l.take (j + 1)) s = { closeM ls many (l.take j) s with N := (closeM ls many (l.take j) s).N.set p closedN, v := if many = true then max (closeM ls many (l.take j) s).v (ls.getD p okz).t else (closeM ls many (l.take j) s).v } := by
  obtain ⟨hj, e⟩ := List.getElem?_eq_some_iff.1 h
  rw [List.take_succ_eq_append_getElem hj, e, closeM_snoc]
end Go.Proofs.YtlblgfpafdfilaaDoor
