/-
STAGE 8: the goings-over of an inner page's children. STAGE 8: the iterator over an inner page's children. STAGE 8: childFor.
-/
import Derived.Test.YtcajidlekfkjlaaOA
import Derived.Test.YtcajidlekfkjlaaNI
import Derived.RangeFuncNested
import Derived.Shelf.Abstract
import Derived.RangeFuncBox
import Derived.RangeFuncLeaves
import Derived.OwnWalkIn
import Derived.TacticsInMore
import Derived.LoopNIn
import Derived.LoopIn
import Derived.BigRegionIn
import Derived.Test.YtcajidlekfkjlaaNV
import Derived.Test.YtcajidlekfkjlaaNH
namespace Go.Proofs.Ytcajidlekfkjlaa
open Go.RowKit
attribute [local go_sem] Oper.semAt_some

/-- a text as a slice in memory -/
structure SX where
  A : Option Addr
  m : Nat
  c : Nat
  d : List Nat
def SX.v (s : SX) : Value := .slice s.A s.m s.c
def SX.In (w : World) (T : Nat → Prop) (s : SX) : Prop := RB w T s.A s.m s.d
def SX.z : SX := ⟨none, 0, 0, []⟩
set_option maxRecDepth 100000 in
theorem SX.z_in (w : World) (T : Nat → Prop) : SX.z.In w T := RB.nil_
/-- the entry of an inner page's cell -/
def entX (x : CV) : SX := ⟨x.A, x.m - 4, x.c, ent 4 x.d⟩
/-- a child: its number, from where its entries lie, and to where -/
structure KV where
  n : Nat
  f : SX
  t : SX
def KV.enc (y : KV) : Array Value := #[.int .u32 (y.n : Int), .agg #[y.f.v, y.t.v]]
def kidsL (t : SX) : Nat → SX → List CV → List KV
  | n, f, [] => [⟨n, f, t⟩]
  | n, f, c :: r => ⟨n, f, entX c⟩ :: kidsL t (childN c.d) (entX c) r
def KV.lies (x : List Nat) (y : KV) : Bool := Go.Proofs.Ytcajidlekfkjlaa.lies y.f.d y.t.d x
/-- the child in which a text lies: the first one, else the last -/
def pick (x : List Nat) : List KV → Nat
  | [] => 0
  | [y] => y.n
  | y :: z :: r => if y.lies x then y.n else pick x (z :: r)
set_option maxRecDepth 100000 in
theorem kidsL_ne (t : SX) (n : Nat) (f : SX) (l : List CV) : ∃ y r, kidsL t n f l = y :: r := by
  cases l with
  | nil => exact ⟨_, _, rfl⟩
  | cons c r => exact ⟨_, _, rfl⟩
set_option maxRecDepth 100000 in
theorem pick_kids (x : List Nat) (t : SX) : ∀ (l : List CV) (n : Nat) (f : SX), pick x (kidsL t n f l) = childL x n f.d (l.map CV.e)
  | [], n, f => rfl
  | c :: r, n, f => by
    obtain ⟨y, q, e⟩ := kidsL_ne t (childN c.d) (entX c) r
    have ih := pick_kids x t r (childN c.d) (entX c)
    simp only [kidsL, List.map_cons, childL]
    rw [e] at ih ⊢
    simp only [pick]
    rw [ih]
    rfl
set_option maxRecDepth 100000 in
theorem pick_stop (x : List Nat) (y : KV) (hy : y.lies x = true) : ∀ (pre q : List KV), (∀ z ∈ pre, z.lies x = false) → pick x (pre ++ y :: q) = y.n
  | [], [], _ => rfl
  | [], z :: q, _ => by simp [pick, hy]
  | [a], q, h => by
    have ih := pick_stop x y hy [] q (by simp)
    simp only [List.nil_append] at ih
    simp only [List.cons_append, List.nil_append, pick]
    rw [h a (by simp), ih]
    rfl
  | a :: b :: pre, q, h => by
    have ih := pick_stop x y hy (b :: pre) q (fun z hz => h z (List.mem_cons_of_mem _ hz))
    simp only [List.cons_append] at ih
    simp only [List.cons_append, pick]
    rw [h a (by simp), ih]
    rfl
set_option maxRecDepth 100000 in
theorem pick_done (x : List Nat) (y : KV) : ∀ (pre : List KV), (∀ z ∈ pre, z.lies x = false) → pick x (pre ++ [y]) = y.n
  | [], _ => rfl
  | [a], h => by simp [pick, h a (by simp)]
  | a :: b :: pre, h => by
    have ih := pick_done x y (b :: pre) (fun z hz => h z (List.mem_cons_of_mem _ hz))
    simp only [List.cons_append] at ih
    simp only [List.cons_append, pick]
    rw [h a (by simp), ih]
    rfl
set_option maxRecDepth 100000 in
theorem kids_all (t : SX) (Pn : Nat → Prop) (Ps : SX → Prop) (ht : Ps t) : ∀ (l : List CV) (n : Nat) (f : SX), Pn n → Ps f → (∀ c ∈ l, Pn (childN c.d) ∧ Ps (entX c)) → ∀ y ∈ kidsL t n f l, Pn y.n ∧ Ps y.f ∧ Ps y.t
  | [], n, f, hn, hf, _, y, hy => by
    simp [kidsL] at hy; subst hy; exact ⟨hn, hf, ht⟩
  | c :: r, n, f, hn, hf, h, y, hy => by
    simp only [kidsL, List.mem_cons] at hy
    rcases hy with rfl | hy
    · exact ⟨hn, hf, (h c (by simp)).2⟩
    · exact kids_all t Pn Ps ht r _ _ (h c (by simp)).1 (h c (by simp)).2 (fun c' hc' => h c' (by simp [hc'])) y hy
/-! ### What a round keeps: whatever is cells, but for the blocks of U -/
def IsC (w : World) (b : Nat) : Prop := ∀ o, w.heap[b]? = some o → o.isCells = true
set_option maxRecDepth 100000 in
theorem isC_cell {w : World} {p : Addr} {v : Value} (h : w.cell? p = some v) : IsC w p.block := by
  intro o ho
  unfold World.cell? at h
  rw [ho] at h
  cases o <;> first | rfl | simp at h
set_option maxRecDepth 100000 in
theorem isC_blk {w : World} {g : Nat} {t : TypeId} {cs : Array Value} (h : Blk w g t cs) : IsC w g := by
  intro o ho
  have := (show w.heap[g]? = _ from h).symm.trans ho
  injection this with this
  subst this
  rfl
structure FrC (U : Nat → Prop) (w w' : World) : Prop where
  os : w'.os = w.os
  tape : w'.tape = w.tape
  output : w'.output = w.output
  size : w.heap.size ≤ w'.heap.size
  block : ∀ b, b < w.heap.size → ¬ U b → IsC w b → w'.heap[b]? = w.heap[b]?
section
variable {U : Nat → Prop} {a b c : World}
set_option maxRecDepth 100000 in
theorem FrC.of_fr (h : Fr a b U) : FrC U a b := ⟨h.os, h.tape, h.output, h.size, fun k hk hu _ => h.block k hk hu⟩
set_option maxRecDepth 100000 in
theorem FrC.same (h : FrC U a b) (k : FrC U b c) : FrC U a c := by
  refine ⟨k.os.trans h.os, k.tape.trans h.tape, k.output.trans h.output, Nat.le_trans h.size k.size, fun i hi hu hc => ?_⟩
  have e := h.block i hi hu hc
  exact (k.block i (Nat.lt_of_lt_of_le hi h.size) hu (fun o ho => hc o (by rw [← e]; exact ho))).trans e
set_option maxRecDepth 100000 in
theorem FrC.fr (h : FrC U a b) : Fr a b (fun k => U k ∨ ¬ IsC a k) :=
  ⟨h.os, h.tape, h.output, h.size, fun k hk hn => h.block k hk (fun hu => hn (Or.inl hu)) (Classical.byContradiction fun hc => hn (Or.inr hc))⟩
set_option maxRecDepth 100000 in
theorem FrC.put (W : World) (l : Nat) (o o' : Obj) (hl : W.heap[l]? = some o) (hc : o.isCells = false) : FrC U W (W.putObj l o') := by
  have hg := grownBy_putObj' W l o'
  refine ⟨hg.os, hg.tape, hg.output, hg.size, fun k hk _ hic => ?_⟩
  by_cases hkl : k = l
  · subst hkl
    have := hic o hl
    rw [hc] at this
    cases this
  · exact hg.block k hk (fun e => hkl (by injection e))
end
set_option maxRecDepth 100000 in
theorem RB.isC {w : World} {S : Nat → Prop} {A : Option Addr} {n : Nat} {l : List Nat} (h : RB w S A n l) : RB w (fun b => b < w.heap.size ∧ IsC w b) A n l := by
  obtain ⟨h1, h2, h3⟩ := h
  refine ⟨h1, h2, fun hn => ?_⟩
  obtain ⟨ad, e, hb, _, hc⟩ := h3 hn
  have := isC_cell (hc 0 hn)
  rw [block_of_add] at this
  exact ⟨ad, e, hb, ⟨hb, this⟩, hc⟩
set_option maxRecDepth 100000 in
theorem CV.In.isC {w : World} {T : Nat → Prop} {x : CV} (h : x.In w T) : x.In w (fun b => b < w.heap.size ∧ IsC w b) := ⟨h.b.isC, h.k, h.mc, h.ml, h.nz⟩
set_option maxRecDepth 100000 in
theorem CR.isC {w : World} {S T : Nat → Prop} {A : Option Addr} {n : Nat} {l : List CV} (h : CR w S T A n l) : CR w (fun b => b < w.heap.size ∧ IsC w b) (fun b => b < w.heap.size ∧ IsC w b) A n l := by
  obtain ⟨h1, h2, h3, h4⟩ := h
  refine ⟨h1, fun x hx => (h2 x hx).isC, h3, fun hn => ?_⟩
  obtain ⟨g, o, e, hg, _, hc⟩ := h4 hn
  have hl : 0 < l.length := by omega
  exact ⟨g, o, e, hg, ⟨hg, isC_cell (hc 0 _ (List.getElem?_eq_getElem hl)).1⟩, hc⟩
set_option maxRecDepth 100000 in
theorem PV.In.isC {w : World} {S T : Nat → Prop} {p : PV} (h : p.In w S T) : p.In w (fun b => b < w.heap.size ∧ IsC w b) (fun b => b < w.heap.size ∧ IsC w b) := ⟨h.r.isC, h.nc, h.nz, h.k1, h.k2, h.s, h.x⟩
set_option maxRecDepth 100000 in
theorem isC_below {w w' : World} (h : Below w.heap.size w w') {b : Nat} (hb : b < w.heap.size) (hc : IsC w b) : IsC w' b := fun o ho => hc o (by rw [← h.block b hb]; exact ho)
abbrev Kid (ks : List KV) := { y : KV // y ∈ ks }
set_option maxHeartbeats 1000000 in
set_option maxRecDepth 100000 in
theorem children_any (p : PV) (f t : SX) (w : World) :
    Calls Try.prog 69 #[p.agg, .agg #[f.v, t.v]] w fun e w' => e = .returned (.func (.func 84) #[] #[.pointer (some ⟨w.heap.size, 0, none⟩), .pointer (some ⟨w.heap.size + 1, 0, none⟩)]) ∧
      w' = (w.alloc (.cells (pcs p) 51)).alloc (.cells #[f.v, t.v] 80) := by
  unfold PV.agg pcs SX.v
  go_enter Try.func69, Try.ntmps69
  go_wp2_with fail
  go_ret
  exact ⟨rfl, rfl⟩
end Go.Proofs.Ytcajidlekfkjlaa
namespace Go.Proofs.Ytcajidlekfkjlaa
open Go.RowKit
attribute [local go_sem] Oper.semAt_some

set_option maxRecDepth 100000 in
theorem grown_of_below {w w' : World} (h : Below w.heap.size w w') : w.grownBy w' none := ⟨h.os, h.tape, h.output, h.size, fun k hk _ => h.block k hk⟩
set_option maxHeartbeats 4000000 in
set_option maxRecDepth 100000 in
theorem kids1_in (n : Nat) (hn : 1 ≤ n) (l a b : Nat) (p : PV) (f t : SX) (U : Nat → Prop) (hUa : ¬ U a) (hUb : ¬ U b) (W : World) (hUn : ∀ b, W.heap.size ≤ b → ¬ U b) {S T : Nat → Prop} (hp : Blk W a 51 (pcs p)) (hs : Blk W b 80 #[f.v, t.v]) (hi : p.In W S T)
    (hS : ∀ b, S b → ¬ U b ∧ IsC W b) (hT : ∀ b, T b → ¬ U b ∧ IsC W b) (hk : p.k = 3) (h4 : ∀ c ∈ p.l, 4 ≤ c.m) (hpn : p.n ≤ 1000000) (ks : List KV) (hks : ks = kidsL t p.x f p.l)
    (J Jx : List (Kid ks) → World → Prop) (hJ : AbidesFrom W.heap.size J)
    (hY : ∀ pre x W1, J pre W1 → pre.length < ks.length → YieldAt Fence.wide (n - 1) Try.prog l x.1.enc W1 fun e W' =>
      (e = .returned (.bool true) ∧ J (pre ++ [x]) W' ∧ FrC U W1 W') ∨ (e = .returned (.bool false) ∧ Jx (pre ++ [x]) W')) (h0 : J [] W) :
    CallsIn Fence.wide n Try.prog 84 #[.func (.yield l) #[] #[], .pointer (some ⟨a, 0, none⟩), .pointer (some ⟨b, 0, none⟩)] W fun e W' => (∃ v, e = .returned v) ∧
      ((∃ xs : List (Kid ks), xs.map (·.1) = ks ∧ J xs W') ∨ (∃ pre : List (Kid ks), pre.map (·.1) <+: ks ∧ Jx pre W')) := by
  obtain ⟨y0, y1, y2, y3⟩ := pcs_cells hp
  have HSN : Hid (∀ b, S b → ¬ (U b ∨ ¬ IsC W b)) := Lib.hid fun b hb h => h.elim (hS b hb).1 fun hn => hn (hS b hb).2
  have HTN : Hid (∀ b, T b → ¬ (U b ∨ ¬ IsC W b)) := Lib.hid fun b hb h => h.elim (hT b hb).1 fun hn => hn (hT b hb).2
  have HAN : Hid (¬ (U a ∨ ¬ IsC W a)) := Lib.hid fun h => h.elim hUa fun hn => hn (isC_blk hp)
  have HBN : Hid (¬ (U b ∨ ¬ IsC W b)) := Lib.hid fun h => h.elim hUb fun hn => hn (isC_blk hs)
  have z0 := hs.cell 0
  have z1 := hs.cell 1
  simp only [List.getElem?_toArray, List.getElem?_cons_zero, List.getElem?_cons_succ] at z0 z1
  have hpl := hi.r.1
  have hx := hi.x
  refine callsIn_of_wp Try.func84 rfl trivial ?_ rfl
  simp only [Try.ntmps84, List.size_toArray, List.length_cons, List.length_nil, Nat.reduceAdd, Nat.reduceSub, Array.replicate_succ, Array.replicate_zero, List.push_toArray, List.append_toArray, List.nil_append, List.cons_append]
  have HP := Lib.hid hp
  have HS := Lib.hid hs
  have HI := Lib.hid hi
  have HKS := Lib.hid hks
  have HY := Lib.hid hY
  have HJ := Lib.hid hJ
  have H0 := Lib.hid h0
  unfold SX.v at z0 z1
  clear hp hs hi hks hY hJ h0 hS hT
  gi_wp2
  gi_region
  gi_wp2
  gi_loopw [4, 5, 16] (fun v4 v5 v16 wr => ∃ (k nn : Nat) (fv : SX) (pre : List (Kid ks)), k ≤ p.n ∧ v16 = .int .i64 (k : Int) ∧ v4 = .int .u32 (nn : Int) ∧ v5 = .slice fv.A fv.m fv.c ∧
      ks = pre.map (·.1) ++ kidsL t nn fv (p.l.drop k) ∧ FrC U W wr ∧ J pre wr) (fun _ _ i _ => p.n - (intOf i).toNat)
  case atStart =>
    refine ⟨0, p.x, f, [], by omega, rfl, rfl, rfl, by simpa using HKS.out, FrC.of_fr (Fr.refl _ _).drew, ?_⟩
    exact HJ.out _ _ _ none H0.out ⟨rfl, rfl, rfl, Nat.le_refl _, fun _ _ _ => rfl⟩ (by simp)
  case round =>
    obtain ⟨k, nn, fv, pre, hkn, rfl, rfl, rfl, hkk, hfr, hjp⟩ := hrel
    by_cases hlt : k < p.n
    · obtain ⟨cx, hcx⟩ : ∃ cx, p.l[k]? = some cx := ⟨_, List.getElem?_eq_getElem (by omega)⟩
      obtain ⟨hkl, hke⟩ := List.getElem?_eq_some_iff.1 hcx
      rw [List.drop_eq_getElem_cons (by omega), hke] at hkk
      have hi' := HI.out.keep hfr.fr HSN.out HTN.out
      have hp' := HP.out.keep hfr.fr HAN.out
      obtain ⟨g, o, cx', hA, hg, hSg, hcx', hci, b0, b1, b2⟩ := hi'.r.at_ hlt
      obtain rfl : cx = cx' := by rw [hcx] at hcx'; injection hcx'
      have hme : cx ∈ p.l := List.mem_of_getElem? hcx
      obtain ⟨q0, q1, q2, q3⟩ := pcs_cells hp'
      have hws : IntKind.i64.wrap ((k : Int) + 1) = ((k + 1 : Nat) : Int) := IntWalk.i64_in _ (by omega)
      have d1 : decide ((k : Int) < (p.n : Int)) = true := decide_eq_true (by omega)
      have hal := hp'.lt
      have hbl := (HS.out.keep hfr.fr HBN.out).lt
      have HE : Hid (∀ W', Below wr.heap.size wr W' → Calls Try.prog 57 #[.int .i64 3, cx.agg] W' fun e w' => e = .returned (.slice cx.A (cx.m - 4) cx.c) ∧ Below W'.heap.size W' w') := Lib.hid fun W' hb => by
        have he : eo p.k = 4 := by unfold eo; rw [if_pos hk]
        have := entryOf_any p.k cx W' (hci.keep (Fr.of_below hb No) fun _ _ hn => hn) (by rw [he]; exact h4 _ hme)
        rwa [he, hk] at this
      unfold CV.agg at HE
      have HKK := Lib.hid hkk
      have HFR := Lib.hid hfr
      have HJP := Lib.hid hjp
      have HCI := Lib.hid hci
      have HME := Lib.hid hme
      rw [hA]
      clear hkk hfr hjp hci hme hi' hp' hcx hcx' hke hkl
      clear y0 y1 y2 y3 z0 z1
      gi_wp2
      refine ⟨trivial, ?_⟩
      refine (callsIn_wide.2 (HE.out _ ((Below.refl _ _).alloc (Nat.le_refl _) _))).mono ?_
      rintro e w2 ⟨rfl, hb2⟩
      have hbc : Below wr.heap.size wr w2 := ((Below.refl _ wr).alloc (Nat.le_refl _) (.cells #[.bool cx.u, .int .u32 (cx.k : Int), .slice cx.A cx.m cx.c] 48)).trans (hb2.mono (by simp))
      have hj2 : J pre w2 := HJ.out _ _ _ none HJP.out (grown_of_below hbc) (by simp)
      have blk2 : Blk w2 wr.heap.size 48 #[.bool cx.u, .int .u32 (cx.k : Int), .slice cx.A cx.m cx.c] := (Blk.new wr 48 _).below hb2 (by simp)
      have HKM : Hid (ks = pre.map (·.1) ++ (⟨nn, fv, entX cx⟩ : KV) :: kidsL t (childN cx.d) (entX cx) (p.l.drop (k + 1))) := HKK
      have hm : (⟨nn, fv, entX cx⟩ : KV) ∈ ks := by rw [HKM.out]; simp
      have hlen : pre.length < ks.length := by have := congrArg List.length HKM.out; simp at this; omega
      obtain ⟨x, hxe⟩ : ∃ x : Kid ks, x.1 = ⟨nn, fv, entX cx⟩ := ⟨⟨_, hm⟩, rfl⟩
      obtain ⟨fn, tmps, assign, body, hy, hR⟩ := HY.out pre x w2 hj2 hlen
      rw [hxe] at hy
      simp only [KV.enc, SX.v, entX] at hy
      have HX := Lib.hid hxe
      have HBC := Lib.hid hbc
      have HBK := Lib.hid blk2
      clear hxe hb2 hbc hj2 hm hlen blk2
      gi_wp2
      refine hR.mono ?_
      rintro e W3 (⟨rfl, hJ3, hk3⟩ | ⟨rfl, hJx3⟩)
      · have hnu : ¬ U wr.heap.size := hUn _ HFR.out.size
        have hbk3 := HBK.out.keep hk3.fr (fun h => h.elim hnu fun hn => hn (isC_blk HBK.out))
        have c0 := hbk3.cell 0
        have c1 := hbk3.cell 1
        have c2 := hbk3.cell 2
        simp only [List.getElem?_toArray, List.getElem?_cons_zero, List.getElem?_cons_succ] at c0 c1 c2
        have hf3 : FrC U W W3 := (HFR.out.same (FrC.of_fr (Fr.of_below HBC.out U))).same hk3
        have hci3 := (HI.out.keep hf3.fr HSN.out HTN.out).r.2.1 cx HME.out
        have hco := childOf_any cx W3 hci3 (h4 _ HME.out)
        unfold CV.agg at hco
        have HF3 := Lib.hid hf3
        clear hf3 hci3 hbk3
        gi_wp2
        refine ⟨trivial, ?_⟩
        refine (callsIn_wide.2 hco).mono ?_
        rintro e w4 ⟨rfl, hb4⟩
        have HJ4 : Hid (J (pre ++ [x]) w4) := Lib.hid (HJ.out _ _ _ none hJ3 (grown_of_below hb4) (by simp))
        have HF4 : Hid (FrC U W w4) := Lib.hid (HF3.out.same (FrC.of_fr (Fr.of_below hb4 U)))
        clear hb4 hJ3 hk3
        gi_wp2
        go_roundw
        case rel =>
          refine ⟨k + 1, childN cx.d, entX cx, pre ++ [x], by omega, by go_num, rfl, rfl, ?_, HF4.out, HJ4.out⟩
          rw [List.map_append]
          refine HKM.out.trans ?_
          simp [HX.out]
        case measure => simp [intOf]; omega
      · gi_wp2
        refine bodyPost_ret (results_none rfl _ _ _) rfl ?_
        refine ⟨⟨_, rfl⟩, .inr ⟨pre ++ [x], ⟨kidsL t (childN cx.d) (entX cx) (p.l.drop (k + 1)), ?_⟩, hJx3⟩⟩
        rw [List.map_append]
        refine Eq.trans ?_ HKM.out.symm
        simp [HX.out]
    · obtain rfl : k = p.n := by omega
      rw [List.drop_of_length_le (by omega)] at hkk
      have hm : (⟨nn, fv, t⟩ : KV) ∈ ks := by rw [hkk]; simp [kidsL]
      have hlen : pre.length < ks.length := by have := congrArg List.length hkk; simp [kidsL] at this; omega
      obtain ⟨x, hxe⟩ : ∃ x : Kid ks, x.1 = ⟨nn, fv, t⟩ := ⟨⟨_, hm⟩, rfl⟩
      obtain ⟨fn, tmps, assign, body, hy, hR⟩ := HY.out pre x wr hjp hlen
      rw [hxe] at hy
      have HX := Lib.hid hxe
      simp only [KV.enc, SX.v] at hy
      have hs' := HS.out.keep hfr.fr HBN.out
      have z1' := hs'.cell 1
      simp only [List.getElem?_toArray, List.getElem?_cons_zero, List.getElem?_cons_succ] at z1'
      unfold SX.v at z1'
      have HKK := Lib.hid hkk
      clear hkk hs' hm hlen hxe
      gi_wp2
      refine hR.mono ?_
      rintro e W3 (⟨rfl, hJ3, hk3⟩ | ⟨rfl, hJx3⟩)
      · gi_wp2
        go_end0
        refine ⟨⟨_, rfl⟩, .inl ⟨pre ++ [x], ?_, hJ3⟩⟩
        rw [List.map_append]
        refine Eq.trans ?_ HKK.out.symm
        simp [HX.out, kidsL]
      · gi_wp2
        go_end0
        refine ⟨⟨_, rfl⟩, .inr ⟨pre ++ [x], ⟨[], ?_⟩, hJx3⟩⟩
        rw [List.map_append, List.append_nil]
        refine Eq.trans ?_ HKK.out.symm
        simp [HX.out, kidsL]
set_option maxRecDepth 100000 in
theorem kids_stops (n : Nat) (hn : 1 ≤ n) (a b : Nat) (p : PV) (f t : SX) (U : Nat → Prop) (hUa : ¬ U a) (hUb : ¬ U b) (w : World) (hUn : ∀ b, w.heap.size ≤ b → ¬ U b) {S T : Nat → Prop} (hp : Blk w a 51 (pcs p)) (hs : Blk w b 80 #[f.v, t.v]) (hi : p.In w S T)
    (hS : ∀ b, S b → ¬ U b ∧ IsC w b ∧ b < w.heap.size) (hT : ∀ b, T b → ¬ U b ∧ IsC w b ∧ b < w.heap.size) (hk : p.k = 3) (h4 : ∀ c ∈ p.l, 4 ≤ c.m) (hpn : p.n ≤ 1000000) (ks : List KV) (hks : ks = kidsL t p.x f p.l) :
    SeqStopsK Fence.wide n Try.prog 84 #[.pointer (some ⟨a, 0, none⟩), .pointer (some ⟨b, 0, none⟩)] (fun x : Kid ks => x.1.enc) (FrC U) (fun xs => xs.map (·.1) = ks) (fun pre => pre.map (·.1) <+: ks) ks.length w := by
  intro l J Jx W hW hJ _ hY h0
  have hf := Fr.of_below hW No
  exact kids1_in n hn l a b p f t U hUa hUb W (fun b hb => hUn b (Nat.le_trans hW.size hb)) (hp.keep hf id) (hs.keep hf id) (hi.keep hf (fun _ _ h => h) fun _ _ h => h)
    (fun b hb => ⟨(hS b hb).1, isC_below hW (hS b hb).2.2 (hS b hb).2.1⟩) (fun b hb => ⟨(hT b hb).1, isC_below hW (hT b hb).2.2 (hT b hb).2.1⟩) hk h4 hpn ks hks J Jx hJ hY h0
end Go.Proofs.Ytcajidlekfkjlaa
namespace Go.Proofs.Ytcajidlekfkjlaa
open Go.RowKit
attribute [local go_sem] Oper.semAt_some

/-- the number that the loop has when these have come -/
def lastN (l : List KV) : Nat := (l.getLast?.map (·.n)).getD 0
set_option maxRecDepth 100000 in
theorem lastN_snoc (l : List KV) (y : KV) : lastN (l ++ [y]) = y.n := by simp [lastN]
set_option maxRecDepth 100000 in
theorem pick_last (x : List Nat) (l : List KV) (h : l ≠ []) (hl : ∀ z ∈ l, z.lies x = false) : pick x l = lastN l := by
  have e := (List.dropLast_concat_getLast h).symm
  rw [e, lastN_snoc]
  exact pick_done x _ _ fun z hz => hl z (List.dropLast_subset _ hz)
set_option maxRecDepth 100000 in
theorem blk_own {X Y : World} {g : Nat} {t : TypeId} {cs : Array Value} {row : Option Nat} (h : Blk X g t cs) (hg : X.grownBy Y row) (hr : ∀ r, row = some r → ∃ o : Obj, X.heap[r]? = some o ∧ o.isCells = false) : Blk Y g t cs := by
  refine h.grown hg fun e => ?_
  obtain ⟨o, ho, hc⟩ := hr g e.symm
  have := isC_blk h o ho
  rw [hc] at this
  cases this
/-- the blocks of the call's own -/
structure CF (w W : World) (A : Option Addr) (m c n : Nat) : Prop where
  nb : Blk W (w.heap.size + 1 + 1) 23 #[.int .u32 (n : Int)]
  tb : Blk W (w.heap.size + 1) 46 #[.slice A m c]
  bl : Below w.heap.size w W
set_option maxRecDepth 100000 in
theorem cf_own {w : World} {A : Option Addr} {m c B : Nat} {β : Type} (f : β → Nat) (hB : w.heap.size ≤ B) : OwnFrom B (fun s W => CF w W A m c (f s)) := fun _ X Y row hs hg hr =>
  ⟨blk_own hs.nb hg fun r e => (hr r e).2, blk_own hs.tb hg fun r e => (hr r e).2, (ownFrom_below (β := Unit) (n₀ := w.heap.size) (B := B) (w₀ := w) (Nat.le_refl _) hB) () X Y row hs.bl hg hr⟩
set_option maxRecDepth 100000 in
theorem own_pure {β : Type} {B : Nat} (P : β → Prop) {I : β → World → Prop} (h : OwnFrom B I) : OwnFrom B (fun s W => P s ∧ I s W) := fun s X Y row hs hg hr => ⟨hs.1, h s X Y row hs.2 hg hr⟩
set_option maxHeartbeats 4000000 in
set_option maxRecDepth 100000 in
theorem childFor_any (p : PV) (A : Option Addr) (m c : Nat) (x : List Nat) (w : World) {S T Tx : Nat → Prop} (hi : p.In w S T) (hx : RB w Tx A m x) (hk : p.k = 3) (h4 : ∀ c ∈ p.l, 4 ≤ c.m) (hpn : p.n ≤ 1000000) :
    Calls Try.prog 48 #[p.agg, .slice A m c] w fun e w' => e = .returned (.int .u32 (childM p x : Int)) ∧ Below w.heap.size w w' := by
  refine (callsIn_wide (n := 5)).1 ?_
  refine callsIn_of_wp_marks Try.func48 rfl trivial ?_ rfl
  simp only [Try.ntmps48, List.size_toArray, List.length_cons, List.length_nil, Nat.reduceAdd, Nat.reduceSub, Array.replicate_succ, Array.replicate_zero, List.push_toArray, List.append_toArray, List.nil_append, List.cons_append]
  obtain ⟨W0, hW0⟩ : ∃ W0, (((((w.alloc (.cells (pcs p) 51)).alloc (.cells #[.slice A m c] 46)).alloc (.cells #[.int .u32 0] 23)).alloc (.cells (pcs p) 51)).alloc (.cells #[SX.z.v, SX.z.v] 80)) = W0 := ⟨_, rfl⟩
  have HC := children_any p SX.z SX.z (((w.alloc (.cells (pcs p) 51)).alloc (.cells #[.slice A m c] 46)).alloc (.cells #[.int .u32 0] 23))
  rw [hW0] at HC
  unfold PV.agg pcs SX.v at HC
  have HK := Lib.hid hk
  have HX := Lib.hid (fun (W : World) (hW : Below w.heap.size w W) => hx.keep (Fr.of_below hW No) fun _ _ hn => hn)
  have hcm : childM p x = pick x (kidsL SX.z p.x SX.z p.l) := (pick_kids x SX.z p.l p.x SX.z).symm
  obtain ⟨ks, hks⟩ : ∃ ks, ks = kidsL SX.z p.x SX.z p.l := ⟨_, rfl⟩
  rw [← hks] at hcm
  have hkf : ∀ y ∈ ks, (y.f.In w (fun _ => True)) ∧ (y.t.In w (fun _ => True)) := by
    rw [hks]
    intro y hy
    exact (kids_all SX.z (fun _ => True) (fun s => s.In w (fun _ => True)) (SX.z_in _ _) p.l p.x SX.z trivial (SX.z_in _ _) (fun c hc => ⟨trivial, ((hi.r.2.1 c hc).mono (T' := fun _ => True) fun _ _ _ => trivial).ent (h4 c hc)⟩) y hy).2
  have HKF := Lib.hid hkf
  have HCM := Lib.hid hcm
  have HKS := Lib.hid hks
  have HI := Lib.hid hi.isC
  have H4 := Lib.hid h4
  have hb1 : Below w.heap.size w (w.alloc (.cells (pcs p) 51)) := (Below.refl _ _).alloc (Nat.le_refl _) _
  have hb2 := hb1.alloc (by simp) (.cells #[.slice A m c] 46)
  have hb3 := hb2.alloc (by simp; omega) (.cells #[.int .u32 0] 23)
  have hb4 := hb3.alloc (by simp; omega) (.cells (pcs p) 51)
  have hb5 := hb4.alloc (by simp; omega) (.cells #[SX.z.v, SX.z.v] 80)
  have kt := ((((Blk.new (w.alloc (.cells (pcs p) 51)) 46 #[.slice A m c]).alloc (.cells #[.int .u32 0] 23)).alloc (.cells (pcs p) 51)).alloc (.cells #[SX.z.v, SX.z.v] 80))
  have kn := (((Blk.new ((w.alloc (.cells (pcs p) 51)).alloc (.cells #[.slice A m c] 46)) 23 #[.int .u32 0]).alloc (.cells (pcs p) 51)).alloc (.cells #[SX.z.v, SX.z.v] 80))
  have kp := ((Blk.new (((w.alloc (.cells (pcs p) 51)).alloc (.cells #[.slice A m c] 46)).alloc (.cells #[.int .u32 0] 23)) 51 (pcs p)).alloc (.cells #[SX.z.v, SX.z.v] 80))
  have ksp := Blk.new ((((w.alloc (.cells (pcs p) 51)).alloc (.cells #[.slice A m c] 46)).alloc (.cells #[.int .u32 0] 23)).alloc (.cells (pcs p) 51)) 80 #[SX.z.v, SX.z.v]
  have hz : W0.heap.size = w.heap.size + 5 := by rw [← hW0]; simp
  rw [hW0] at hb5 kt kn kp ksp
  simp only [World.size_alloc] at kt kn kp ksp HC
  have HB := Lib.hid hb5
  have HKT := Lib.hid kt
  have HKN := Lib.hid kn
  have HKP := Lib.hid kp
  have HSP := Lib.hid ksp
  have HCC := Lib.hid HC
  have HPN := Lib.hid hpn
  clear hb1 hb2 hb3 hb4 hb5 kt kn kp ksp hk hx hcm hks hkf hi h4 hW0 HC hpn
  unfold PV.agg
  gi_wp2
  refine ⟨trivial, ?_⟩
  refine (callsIn_wide.2 HCC.out).mono ?_
  rintro e w1 ⟨rfl, rfl⟩
  gi_wp2
  obtain ⟨pg, hpg⟩ : ∃ pg, pg = Value.agg #[.int .i64 p.k, .int .u64 (p.s : Int), .int .u32 (p.x : Int), .slice p.A p.n p.c] := ⟨_, rfl⟩
  obtain ⟨tm, htm⟩ : ∃ tm : Value → Value → Value → Value → Array Value, tm = fun a b d e => #[pg, .slice A m c, .pointer (some ⟨w.heap.size, 0, none⟩), .pointer (some ⟨w.heap.size + 1, 0, none⟩), .int .u32 0, .pointer (some ⟨w.heap.size + 1 + 1, 0, none⟩), a, b, pg, .agg #[.slice none 0 0, .slice none 0 0],
    .func (.func 84) #[] #[.pointer (some ⟨w.heap.size + 1 + 1 + 1, 0, none⟩), .pointer (some ⟨w.heap.size + 1 + 1 + 1 + 1, 0, none⟩)], d, e, undef, undef, undef, undef, undef] := ⟨_, rfl⟩
  have hU : ∀ b, (b < w.heap.size ∨ b = w.heap.size + 3 ∨ b = w.heap.size + 4 ∨ w1.heap.size ≤ b) → ¬ (b = w.heap.size + 1 + 1) := fun b h => by omega
  have hI0 := HI.out.below HB.out
  have hST : ∀ b, (b < w.heap.size ∧ IsC w b) → ¬ (b = w.heap.size + 1 + 1) ∧ IsC w1 b ∧ b < w1.heap.size := fun b h => ⟨by have := h.1; omega, isC_below HB.out h.1 h.2, by have := h.1; omega⟩
  rw [← hpg]
  refine wpIn_rangeFunc_ownH (F := Fence.wide) (n := 5) rfl (by omega) (gf := 84) (lb := #[.pointer (some ⟨w.heap.size + 1 + 1 + 1, 0, none⟩), .pointer (some ⟨w.heap.size + 1 + 1 + 1 + 1, 0, none⟩)]) rfl trivial (Go.Proofs.enters_of Try.func84 (by kernel_rfl) rfl)
    (kids_stops 4 (by omega) (w.heap.size + 1 + 1 + 1) (w.heap.size + 1 + 1 + 1 + 1) p SX.z SX.z (fun b => b = w.heap.size + 1 + 1) (by omega) (by omega) w1 (fun b hb => hU b (by omega)) HKP.out HSP.out hI0 hST hST HK.out H4.out HPN.out ks HKS.out)
    (fun h k => h.same k) (fun W l o o' _ hl hc _ => FrC.put W l o o' hl hc) (Below.refl _ _) (fun _ => rfl)
    (fun pre W => (∀ y ∈ pre, y.1.lies x = false) ∧ CF w W A m c (lastN (pre.map (·.1))))
    (fun cd pre W => (cd = .exit 0 ∧ ∃ ini y, pre = ini ++ [y] ∧ (∀ z ∈ ini, z.1.lies x = false) ∧ y.1.lies x = true) ∧ CF w W A m c (lastN (pre.map (·.1))))
    (own_pure _ (cf_own _ (by omega))) (fun cd => own_pure _ (cf_own _ (by omega)))
    ⟨by simp, HKN.out, HKT.out, HB.out⟩
    (fun x a' W => ∃ Bx, Bx ≠ w.heap.size + 1 + 1 ∧ Blk W Bx 80 #[x.1.f.v, x.1.t.v] ∧ a' = { tmps := tm (.int .u32 (x.1.n : Int)) (.pointer (some ⟨Bx, 0, none⟩)) (.int .u32 (x.1.n : Int)) (.agg #[x.1.f.v, x.1.t.v]), defers := [] })
    (fun x a' _ X Y row hs hg hr => by obtain ⟨Bx, h1, h2, h3⟩ := hs; exact ⟨Bx, h1, blk_own h2 hg fun r e => (hr r e).2, h3⟩)
    ?assign ?body ?done ?stop
  case assign =>
    rintro l pre y W K ⟨hn, hcf⟩ hK
    have hK' := hK _ _ ((KeepsOthers.alloc W (.cells #[y.1.f.v, y.1.t.v] 80)).from _) (FrC.of_fr ((Fr.refl W _).alloc _)) ⟨hn, hcf.nb.alloc _, hcf.tb.alloc _, hcf.bl.trans ((Below.refl _ W).alloc hcf.bl.size _)⟩ ⟨W.heap.size, ?_, Blk.new W 80 #[y.1.f.v, y.1.t.v], rfl⟩
    · rw [htm] at hK'
      unfold KV.enc SX.v
      unfold SX.v at hK'
      rw [hpg] at hK' ⊢
      clear hK hpg htm
      gi_wp2
      exact hK'
    · have := hcf.nb.lt; omega
  case body =>
    rintro l pre y a' W hl ⟨r, hr⟩ ⟨hn, hcf⟩ ⟨Bx, hBx, bX, rfl⟩ hlt
    obtain ⟨W2, hW2⟩ : ∃ W2, W2 = W.setCell ⟨w.heap.size + 1 + 1, 0, none⟩ (.int .u32 (y.1.n : Int)) := ⟨_, rfl⟩
    have hs2 : Fr W W2 (fun b => b = w.heap.size + 1 + 1) := by rw [hW2]; exact (Fr.refl W fun b => b = w.heap.size + 1 + 1).setCell (p := ⟨w.heap.size + 1 + 1, 0, none⟩) (Or.inl rfl) _
    have bX2 := bX.keep hs2 hBx
    have tb2 := hcf.tb.keep hs2 (by omega)
    have nb2 : Blk W2 (w.heap.size + 1 + 1) 23 #[.int .u32 (y.1.n : Int)] := by rw [hW2]; exact hcf.nb.set_ 0 _
    have bl2 : Below w.heap.size w W2 := hcf.bl.trans (hs2.below (fun b hb => by omega) hcf.bl.size)
    have ko : KeepsOthers W W2 := by rw [hW2]; exact KeepsOthers.setCell _ _ _
    have nc := hcf.nb.cell 0
    have nf := hcf.nb.frozen 0
    have x0 := bX2.cell 0
    have x1 := bX2.cell 1
    have t0 := tb2.cell 0
    simp only [List.getElem?_toArray, List.getElem?_cons_zero, List.getElem?_cons_succ] at nc x0 x1 t0
    have hkf := HKF.out y.1 y.2
    have HH := has_any y.1.f.A y.1.t.A A y.1.f.m y.1.f.c y.1.t.m y.1.t.c m c y.1.f.d y.1.t.d x W2 (hkf.1.keep (Fr.of_below bl2 No) fun _ _ hn => hn) (hkf.2.keep (Fr.of_below bl2 No) fun _ _ hn => hn) (HX.out W2 bl2)
    unfold SX.v at x0 x1
    rw [hW2] at x0 x1 t0 HH
    rw [htm]
    have HS2 := Lib.hid hs2
    have HN2 := Lib.hid nb2
    have HT2 := Lib.hid tb2
    have HL2 := Lib.hid bl2
    have HKO := Lib.hid ko
    have HHH := Lib.hid HH
    have HW2 := Lib.hid hW2
    have HN := Lib.hid hn
    clear hs2 bX2 tb2 nb2 bl2 ko HH hW2 hkf hn bX hcf htm hpg hr hU hST hI0
    gi_wp2
    refine ⟨trivial, ?_⟩
    refine (CallsIn.inRound l (callsIn_wide.2 HHH.out)).mono ?_
    rintro e w3 ⟨rfl, hb3⟩
    rw [← HW2.out] at hb3
    have HCF : Hid (CF w w3 A m c (lastN ((pre ++ [y]).map (·.1)))) := Lib.hid (by
      rw [List.map_append]
      refine ⟨?_, HT2.out.below hb3 HT2.out.lt, HL2.out.trans (hb3.mono HL2.out.size)⟩
      have : lastN (pre.map (·.1) ++ [y].map (·.1)) = y.1.n := lastN_snoc _ _
      rw [this]
      exact HN2.out.below hb3 HN2.out.lt)
    have HKF3 : Hid (KeepsFrom w1.heap.size W w3) := Lib.hid ((HKO.out.from _).trans (KeepsFrom.of_grownBy (grown_of_below hb3) (by simp)))
    have HFC : Hid (FrC (fun b => b = w.heap.size + 1 + 1) W w3) := Lib.hid (FrC.of_fr (HS2.out.same (Fr.of_below hb3 _)))
    cases hly : lies y.1.f.d y.1.t.d x with
    | false =>
      gi_wp2
      exact ⟨HKF3.out, HFC.out, fun z hz => (List.mem_append.1 hz).elim (HN.out z) (fun h => by simp at h; subst h; exact hly), HCF.out⟩
    | true =>
      gi_wp2
      exact ⟨HKF3.out, ⟨rfl, pre, y, rfl, HN.out, hly⟩, HCF.out⟩
  case done =>
    rintro D xs W hD hxs ⟨hn, hcf⟩ hK
    have hne : ks ≠ [] := by
      obtain ⟨y, q, e⟩ := kidsL_ne SX.z p.x SX.z p.l
      rw [HKS.out, e]
      simp
    have hr : childM p x = lastN ks := by
      rw [HCM.out]
      refine pick_last x ks hne fun z hz => ?_
      rw [← hxs] at hz
      obtain ⟨y, hy, rfl⟩ := List.mem_map.1 hz
      exact hn y hy
    rw [hxs] at hcf
    have nc := hcf.nb.cell 0
    simp only [List.getElem?_toArray, List.getElem?_cons_zero] at nc
    have hbl := hcf.bl
    have HR := Lib.hid hr
    rw [hpg]
    clear hr hcf hn hne htm hpg hU hST hI0
    gi_wp2
    refine ⟨by simp, .inl ⟨_, _, rfl, run_takeDeferred hK, ?_⟩⟩
    exact ⟨_, results_tmp rfl _ _ _, by rw [HR.out]; rfl, hbl.trans (belowK_b (w := w) (Nat.le_refl _) W D _ _ (by omega) hK rfl rfl)⟩
  case stop =>
    rintro D cd pre W hD hpre ⟨⟨rfl, ini, y, rfl, hin, hy⟩, hcf⟩ hK
    have hr : childM p x = y.1.n := by
      rw [HCM.out]
      obtain ⟨q, hq⟩ := hpre
      have hq' : ks = ini.map (·.1) ++ y.1 :: q := hq.symm.trans (by simp)
      exact (congrArg (pick x) hq').trans (pick_stop x y.1 hy _ _ fun z hz => by obtain ⟨u, hu, rfl⟩ := List.mem_map.1 hz; exact hin u hu)
    rw [List.map_append] at hcf
    have hla : lastN (ini.map (·.1) ++ [y].map (·.1)) = y.1.n := lastN_snoc _ _
    rw [hla] at hcf
    have nc := hcf.nb.cell 0
    simp only [List.getElem?_toArray, List.getElem?_cons_zero] at nc
    have hbl := hcf.bl
    have HR := Lib.hid hr
    rw [hpg]
    clear hr hcf hin hy hla hpre htm hpg hU hST hI0
    gi_wp2
    refine ⟨by simp, .inl ⟨_, _, rfl, run_takeDeferred hK, ?_⟩⟩
    exact ⟨_, results_tmp rfl _ _ _, by rw [HR.out]; rfl, hbl.trans (belowK_b (w := w) (Nat.le_refl _) W D _ _ (by omega) hK rfl rfl)⟩
set_option maxRecDepth 100000 in
theorem childOk_any {w : World} {S Tx : Nat → Prop} {G : Option TV} (h : GIn w S G) {A : Option Addr} {m : Nat} (c : Nat) {x : List Nat} (hx : RB w Tx A m x) : ChildOk w G A m c x := by
  intro p W hW ⟨q, hq⟩ hk
  have hi := (ask_in h hq).1.below hW
  obtain ⟨_, _, _, _, hok⟩ := ask_ok_inv hq
  have h3 : p.k = 3 := (okP_rise hok).2.2.1.resolve_left hk
  have hle := okP_le hi hok
  have he : eo p.k = 4 := by unfold eo; rw [if_pos h3]
  rw [he] at hle
  exact childFor_any p A m c x W hi (hx.keep (Fr.of_below hW No) fun _ _ hn => hn) h3 hle (by have := okP_n hi hok; omega)
set_option maxRecDepth 100000 in
theorem childAll_any {w : World} {S : Nat → Prop} {G : Option TV} (h : GIn w S G) (x : List Nat) : ChildAll w G x := fun _ _ c hW hx => childOk_any (h.below hW) c hx
end Go.Proofs.Ytcajidlekfkjlaa
