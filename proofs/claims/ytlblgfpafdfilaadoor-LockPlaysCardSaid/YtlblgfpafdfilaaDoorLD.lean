/-
STAGE 12: rows of locks, tables that are read; some. STAGE 12: the closures of Ask, Has, waitsFor.
-/
import Derived.Test.YtlblgfpafdfilaaDoorLA
import Derived.Shelf.Abstract
namespace Go.Proofs.YtlblgfpafdfilaaDoor
open Go.RowKit

structure LK.Ok (l : LK) : Prop where
  t : l.t < 4294967296
  i : l.x.i < 4294967296
  a : l.x.a.size ≤ 9223372036854775807
  b : l.x.b.size ≤ 9223372036854775807
  m1 : 1 ≤ l.m
  m4 : l.m ≤ 4
/-- the seven cells of a lock, from cell o of block b on -/
def Cs (w : World) (b o : Nat) (l : LK) : Prop :=
  w.cell? ⟨b, o, none⟩ = some (.int .u32 (l.t : Int)) ∧ w.cell? ⟨b, o + 1, none⟩ = some (.bool l.x.r) ∧ w.cell? ⟨b, o + 2, none⟩ = some (.int .u32 (l.x.i : Int)) ∧ w.cell? ⟨b, o + 3, none⟩ = some (.string l.x.a) ∧ w.cell? ⟨b, o + 4, none⟩ = some (.string l.x.b) ∧ w.cell? ⟨b, o + 5, none⟩ = some (.int .i64 l.m) ∧ w.cell? ⟨b, o + 6, none⟩ = some (.bool l.h)
theorem Cs.block {w w' : World} {b o : Nat} {l : LK} (h : Cs w b o l) (hb : w'.heap[b]? = w.heap[b]?) : Cs w' b o l :=
  ⟨(World.cell?_of_block hb).trans h.1, (World.cell?_of_block hb).trans h.2.1, (World.cell?_of_block hb).trans h.2.2.1, (World.cell?_of_block hb).trans h.2.2.2.1, (World.cell?_of_block hb).trans h.2.2.2.2.1, (World.cell?_of_block hb).trans h.2.2.2.2.2.1, (World.cell?_of_block hb).trans h.2.2.2.2.2.2⟩
theorem Cs.lt {w : World} {b o : Nat} {l : LK} (h : Cs w b o l) : b < w.heap.size := block_lt_of_cell h.1
theorem Cs.below {w w' : World} {B b o : Nat} {l : LK} (h : Cs w b o l) (hb : Below B w w') (hB : b < B) : Cs w' b o l := h.block (hb.block b hB)
theorem Cs.up {w w' : World} {b o : Nat} {l : LK} (h : Cs w b o l) (hb : Below w.heap.size w w') : Cs w' b o l := h.below hb h.lt
def lcs (l : LK) : Array Value := #[.int .u32 (l.t : Int), .bool l.x.r, .int .u32 (l.x.i : Int), .string l.x.a, .string l.x.b, .int .i64 l.m, .bool l.h]
theorem Cs.of {w : World} {b : Nat} {t : TypeId} {l : LK} (h : Blk w b t (lcs l)) : Cs w b 0 l := ⟨h.cell 0, h.cell 1, h.cell 2, h.cell 3, h.cell 4, h.cell 5, h.cell 6⟩

/-- a slice reads as a row of locks -/
def Row (w : World) (A : Option Addr) (ls : List LK) : Prop := ∀ i l, ls[i]? = some l → ∃ b, A = some ⟨b, 0, none⟩ ∧ Cs w b (i * 7) l
theorem Row.up {w w' : World} {A : Option Addr} {ls : List LK} (h : Row w A ls) (hb : Below w.heap.size w w') : Row w' A ls := fun i l hi => by
  obtain ⟨b, e, hc⟩ := h i l hi
  exact ⟨b, e, hc.up hb⟩
/-- a table that is read -/
structure TR (w : World) (g : Nat) (A : Option Addr) (c : Nat) (ls : List LK) : Prop where
  blk : Blk w g 29 #[.slice A ls.length c]
  row : Row w A ls
  ok : ∀ l ∈ ls, l.Ok
  few : ls.length ≤ 16384
  le : ls.length ≤ c
theorem TR.up {w w' : World} {g : Nat} {A : Option Addr} {c : Nat} {ls : List LK} (h : TR w g A c ls) (hb : Below w.heap.size w w') : TR w' g A c ls :=
  ⟨h.blk.below hb h.blk.lt, h.row.up hb, h.ok, h.few, h.le⟩

theorem any_take {ls : List LK} {P : LK → Bool} {k : Nat} {l : LK} (h : ls[k]? = some l) (ha : (ls.take k).any P = false) (hp : P l = false) : (ls.take (k + 1)).any P = false := by
  obtain ⟨hk, e⟩ := List.getElem?_eq_some_iff.1 h
  rw [List.take_succ_eq_append_getElem hk, List.any_append, ha, e]
  simp [hp]
theorem any_at {ls : List LK} {P : LK → Bool} {k : Nat} {l : LK} (h : ls[k]? = some l) (hp : P l = true) : ls.any P = true := by
  rw [List.any_eq_true]
  exact ⟨l, List.mem_of_getElem? h, hp⟩
set_option maxHeartbeats 1000000 in
set_option maxRecDepth 100000 in
theorem some_any (f : Nat) (hf : f = 43 ∨ f = 45 ∨ f = 57) (caps : Array Value) (P : LK → Bool) (g : Nat) (A : Option Addr) (c : Nat) (ls : List LK) (w : World) (hT : TR w g A c ls)
    (hc : ∀ k l b, ls[k]? = some l → A = some ⟨b, 0, none⟩ → ∀ W, Below w.heap.size w W → Calls Tryd.prog f (#[.pointer (some ⟨b, k * 7, none⟩)] ++ caps) W fun e w' => e = .returned (.bool (P l)) ∧ Below W.heap.size W w') :
    Calls Tryd.prog 42 #[.pointer (some ⟨g, 0, none⟩), .func (.func f) #[] caps] w fun e w' => e = .returned (.bool (ls.any P)) ∧ Below w.heap.size w w' := by
  have eg : ∀ args w, (callFunc f args).run Tryd.prog w = .ok (.enter f args) w := by
    rcases hf with rfl | rfl | rfl
    · exact enters_of Tryd.func43 (by kernel_rfl) rfl
    · exact enters_of Tryd.func45 (by kernel_rfl) rfl
    · exact enters_of Tryd.func57 (by kernel_rfl) rfl
  have HT := Lib.hid hT
  have HC := Lib.hid hc
  have HF := Lib.hid hT.few
  have c0 := hT.blk.cell 0
  simp only [List.getElem?_toArray, List.getElem?_cons_zero] at c0
  obtain ⟨n, hn⟩ : ∃ n, n = ls.length := ⟨_, rfl⟩
  rw [← hn] at c0
  have HN := Lib.hid hn
  clear hT hc hn
  go_enter Tryd.func42, Tryd.ntmps42
  go_wp2_with fail
  go_loopw [11] (fun i wr => ∃ k : Nat, k ≤ n ∧ i = .int .i64 (k : Int) ∧ (ls.take k).any P = false ∧ Below w.heap.size w wr) (fun i _ => n - (intOf i).toNat)
  case atStart => exact ⟨0, by omega, rfl, by simp, Below.refl _ _⟩
  case round =>
    obtain ⟨k, hk, rfl, ha, hb⟩ := hrel
    have HB := Lib.hid hb
    have HA := Lib.hid ha
    clear ha
    by_cases hlt : k < n
    · have hl : ls[k]? = some (ls[k]'(by have := HN.out; omega)) := List.getElem?_eq_getElem _
      generalize ls[k]'(by have := HN.out; omega) = l at hl
      obtain ⟨b, rfl, hcs⟩ := HT.out.row k l hl
      have HL := Lib.hid hl
      have HCK := Lib.hid (HC.out k l b hl rfl _ hb)
      have c1 := (HT.out.blk.below hb HT.out.blk.lt).cell 0
      simp only [List.getElem?_toArray, List.getElem?_cons_zero] at c1
      rw [← HN.out] at c1
      have hin : ((k : Int) < (n : Int)) := by omega
      have e1 : IntKind.i64.wrap ((k : Int) + 1) = ((k + 1 : Nat) : Int) := by rw [IntWalk.i64_in _ (by have := HF.out; have := HN.out; omega)]; omega
      clear hb hcs hl
      cases hP : P l with
      | true =>
        rw [hP] at HCK
        have HP := Lib.hid (any_at HL.out hP)
        clear hP
        go_wp2_with fail
        with_reducible refine HCK.out.mono ?_
        rintro e w2 ⟨rfl, hb2⟩
        have HB2 := Lib.hid (HB.out.trans (hb2.mono HB.out.size))
        clear hb2
        go_wp2_with fail
        go_ret
        exact ⟨by rw [HP.out]; rfl, HB2.out⟩
      | false =>
        rw [hP] at HCK
        have HP := Lib.hid (any_take HL.out HA.out hP)
        clear hP
        go_wp2_with fail
        with_reducible refine HCK.out.mono ?_
        rintro e w2 ⟨rfl, hb2⟩
        have HB2 := Lib.hid (HB.out.trans (hb2.mono HB.out.size))
        clear hb2
        go_wp2_with fail
        go_roundw
        case rel => exact ⟨k + 1, by omega, by go_num, HP.out, HB2.out⟩
        case measure => simp [intOf]; omega
    · obtain rfl : k = n := by omega
      have hin : ¬ ((k : Int) < (k : Int)) := by omega
      have HE := Lib.hid (show ls.any P = false by have := HA.out; rwa [HN.out, List.take_length] at this)
      clear hb
      go_wp2_with fail
      go_ret
      exact ⟨by rw [HE.out]; rfl, HB.out⟩
end Go.Proofs.YtlblgfpafdfilaaDoor
namespace Go.Proofs.YtlblgfpafdfilaaDoor
open Go.RowKit Go.Sort

theorem Cs.rg {w : World} {b o : Nat} {l : LK} (h : Cs w b o l) :
    (∀ d os, (grow (redrawn w d) os).cell? ⟨b, o, none⟩ = some (.int .u32 (l.t : Int))) ∧ (∀ d os, (grow (redrawn w d) os).cell? ⟨b, o + 1, none⟩ = some (.bool l.x.r)) ∧ (∀ d os, (grow (redrawn w d) os).cell? ⟨b, o + 2, none⟩ = some (.int .u32 (l.x.i : Int))) ∧ (∀ d os, (grow (redrawn w d) os).cell? ⟨b, o + 3, none⟩ = some (.string l.x.a)) ∧ (∀ d os, (grow (redrawn w d) os).cell? ⟨b, o + 4, none⟩ = some (.string l.x.b)) ∧ (∀ d os, (grow (redrawn w d) os).cell? ⟨b, o + 5, none⟩ = some (.int .i64 l.m)) ∧ (∀ d os, (grow (redrawn w d) os).cell? ⟨b, o + 6, none⟩ = some (.bool l.h)) :=
  ⟨fun d os => cell_regrown h.1 d os, fun d os => cell_regrown h.2.1 d os, fun d os => cell_regrown h.2.2.1 d os, fun d os => cell_regrown h.2.2.2.1 d os, fun d os => cell_regrown h.2.2.2.2.1 d os, fun d os => cell_regrown h.2.2.2.2.2.1 d os, fun d os => cell_regrown h.2.2.2.2.2.2 d os⟩
theorem nbeq (a b : Nat) : ((a : Int) == (b : Int)) = (a == b) := by rw [Bool.eq_iff_iff, beq_iff_eq, beq_iff_eq]; omega
/-- waits, of this transaction -/
def waitsP (t : Nat) (l : LK) : Bool := l.t == t && !l.h
set_option maxRecDepth 100000 in
theorem askP_any (t a : Nat) (l : LK) (b o : Nat) (W : World) (h : Cs W b o l) (ht : W.cell? ⟨a, 0, none⟩ = some (.int .u32 (t : Int))) :
    Calls Tryd.prog 43 #[.pointer (some ⟨b, o, none⟩), .pointer (some ⟨a, 0, none⟩)] W fun e w' => e = .returned (.bool (waitsP t l)) ∧ Below W.heap.size W w' := by
  obtain ⟨z0, z1, z2, z3, z4, z5, z6⟩ := h.rg
  have v0 := fun d os => cell_regrown ht d os
  have d1 := nbeq l.t t
  unfold waitsP
  obtain ⟨p, hp⟩ : ∃ p, (l.t == t) = p := ⟨_, rfl⟩
  rw [hp] at d1 ⊢
  clear hp h ht
  cases p <;>
  · go_enter Tryd.func43, Tryd.ntmps43
    go_upto_region 1 with fail
    refine wp_region_quiet_below (by kernel_rfl) (by kernel_rfl) ?_
    repeat (go_big_quiet_step (fail))
    refine wpQuiet_nil ?_
    rintro W3 ⟨pp, hpp⟩
    have HB3 := Lib.hid (show Below W.heap.size W W3 by rw [hpp]; exact below_regrown _ _ _)
    clear hpp z0 z1 z2 z3 z4 z5 z6 v0
    go_wp2_with fail
    go_ret
    exact ⟨by simp, HB3.out⟩

theorem covers_b (a b : Int) (ha : 1 ≤ a ∧ a ≤ 4) (hb : 1 ≤ b ∧ b ≤ 4) (w : World) (hg : Gw w) : Calls Tryd.prog 46 #[.int .i64 a, .int .i64 b] w fun e w' => e = .returned (.bool (covM a b)) ∧ Below w.heap.size w w' :=
  (covers_any a b ha hb w hg).mono fun _ _ ⟨h1, h2⟩ => ⟨h1, by rw [h2]; exact Below.refl _ _⟩
theorem conflict_b (a b : Int) (ha : 1 ≤ a ∧ a ≤ 4) (hb : 1 ≤ b ∧ b ≤ 4) (w : World) (hg : Gw w) : Calls Tryd.prog 60 #[.int .i64 a, .int .i64 b] w fun e w' => e = .returned (.bool (conM a b)) ∧ Below w.heap.size w w' :=
  (conflict_any a b ha hb w hg).mono fun _ _ ⟨h1, h2⟩ => ⟨h1, by rw [h2]; exact Below.refl _ _⟩
/-- holds that, or more -/
def hasP (t : Nat) (x : Th) (m : Int) (l : LK) : Bool := l.t == t && l.h && covM l.m m && liesM x l.x
set_option maxRecDepth 100000 in
set_option maxHeartbeats 1000000 in
theorem hasP_any (t a a2 a3 : Nat) (x : Th) (m : Int) (hm : 1 ≤ m ∧ m ≤ 4) (l : LK) (hl : l.Ok) (b o : Nat) (W : World) (hg : Gw W) (h : Cs W b o l) (ht : W.cell? ⟨a, 0, none⟩ = some (.int .u32 (t : Int))) (hm2 : W.cell? ⟨a2, 0, none⟩ = some (.int .i64 m)) (hx : Blk W a3 36 (tcs x)) :
    Calls Tryd.prog 45 #[.pointer (some ⟨b, o, none⟩), .pointer (some ⟨a, 0, none⟩), .pointer (some ⟨a2, 0, none⟩), .pointer (some ⟨a3, 0, none⟩)] W fun e w' => e = .returned (.bool (hasP t x m l)) ∧ Below W.heap.size W w' := by
  obtain ⟨z0, z1, z2, z3, z4, z5, z6⟩ := h.rg
  obtain ⟨x0, x1, x2, x3⟩ := blk36 hx
  have v0 := fun d os => cell_regrown ht d os
  have v1 := fun d os => cell_regrown hm2 d os
  have y0 := fun d os => cell_regrown x0 d os
  have y1 := fun d os => cell_regrown x1 d os
  have y2 := fun d os => cell_regrown x2 d os
  have y3 := fun d os => cell_regrown x3 d os
  have d1 := nbeq l.t t
  have HC := Lib.hid (fun W' (h : Below W.heap.size W W') => covers_b l.m m ⟨hl.m1, hl.m4⟩ hm W' (hg.below h))
  have HL := Lib.hid (fun W' => lies_any x l.x W')
  unfold hasP
  obtain ⟨p, hp⟩ : ∃ p, (l.t == t) = p := ⟨_, rfl⟩
  rw [hp] at d1 ⊢
  generalize covM _ _ = c at HC ⊢
  generalize liesM _ _ = r at HL ⊢
  obtain ⟨lt, ⟨lr, li, la, lb⟩, lm, lh⟩ := l
  obtain ⟨xr, xi, xa, xb⟩ := x
  simp only [Th.agg] at HC HL z0 z1 z2 z3 z4 z5 z6 y0 y1 y2 y3 d1 ⊢
  clear hp h ht x0 x1 x2 x3 hx hm2 hg hl hm
  cases p <;> cases lh <;> cases c <;>
  · go_enter Tryd.func45, Tryd.ntmps45
    go_upto_region 1 with fail
    refine wp_region_quiet_below (by kernel_rfl) (by kernel_rfl) ?_
    repeat (go_big_quiet_step (first | (go_at_call 46; with_reducible exact Calls.regrown_of (HC.out _ (below_regrown _ _ _))) | (go_at_call 47; with_reducible exact Calls.regrown_of (HL.out _))))
    refine wpQuiet_nil ?_
    rintro W3 ⟨pp, hpp⟩
    have HB3 := Lib.hid (show Below W.heap.size W W3 by rw [hpp]; exact below_regrown _ _ _)
    clear hpp z0 z1 z2 z3 z4 z5 z6 v0 v1 y0 y1 y2 y3
    go_wp2_with fail
    go_ret
    exact ⟨by simp, HB3.out⟩
end Go.Proofs.YtlblgfpafdfilaaDoor
