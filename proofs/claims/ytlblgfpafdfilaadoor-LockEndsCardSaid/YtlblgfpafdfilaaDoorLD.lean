/-
  STAGE 12: rows of locks, tables that are read; some.
-/
import Derived.Test.YtlblgfpafdfilaaDoorLC
import Derived.Shelf.Abstract
namespace Go.Proofs.YtlblgfpafdfilaaDoor
open Go.RowKit

structure LK.Ok (l : LK) : Prop where
  t : l.t < 4294967296
  i : l.x.i < 4294967296
  a : l.x.a.size ≤ 9223372036854775807
  b : l.x.b.size ≤ 9223372036854775807
  m1 : 1 ≤ l.m
  m4 : l.m ≤ 4
/-- the seven cells of a lock, from cell o of block b on -/
def Cs (w : World) (b o : Nat) (l : LK) : Prop :=
  w.cell? ⟨b, o, none⟩ = some (.int .u32 (l.t : Int)) ∧ w.cell? ⟨b, o + 1, none⟩ = some (.bool l.x.r) ∧ w.cell? ⟨b, o + 2, none⟩ = some (.int .u32 (l.x.i : Int)) ∧ w.cell? ⟨b, o + 3, none⟩ = some (.string l.x.a) ∧ w.cell? ⟨b, o + 4, none⟩ = some (.string l.x.b) ∧ w.cell? ⟨b, o + 5, none⟩ = some (.int .i64 l.m) ∧ w.cell? ⟨b, o + 6, none⟩ = some (.bool l.h)
theorem Cs.block {w w' : World} {b o : Nat} {l : LK} (h : Cs w b o l) (hb : w'.heap[b]? = w.heap[b]?) : Cs w' b o l :=
  ⟨(World.cell?_of_block hb).trans h.1, (World.cell?_of_block hb).trans h.2.1, (World.cell?_of_block hb).trans h.2.2.1, (World.cell?_of_block hb).trans h.2.2.2.1, (World.cell?_of_block hb).trans h.2.2.2.2.1, (World.cell?_of_block hb).trans h.2.2.2.2.2.1, (World.cell?_of_block hb).trans h.2.2.2.2.2.2⟩
theorem Cs.lt {w : World} {b o : Nat} {l : LK} (h : Cs w b o l) : b < w.heap.size := block_lt_of_cell h.1
theorem Cs.below {w w' : World} {B b o : Nat} {l : LK} (h : Cs w b o l) (hb : Below B w w') (hB : b < B) : Cs w' b o l := h.block (hb.block b hB)
theorem Cs.up {w w' : World} {b o : Nat} {l : LK} (h : Cs w b o l) (hb : Below w.heap.size w w') : Cs w' b o l := h.below hb h.lt
def lcs (l : LK) : Array Value := #[.int .u32 (l.t : Int), .bool l.x.r, .int .u32 (l.x.i : Int), .string l.x.a, .string l.x.b, .int .i64 l.m, .bool l.h]
theorem Cs.of {w : World} {b : Nat} {t : TypeId} {l : LK} (h : Blk w b t (lcs l)) : Cs w b 0 l := ⟨h.cell 0, h.cell 1, h.cell 2, h.cell 3, h.cell 4, h.cell 5, h.cell 6⟩

/-- a slice reads as a row of locks -/
def Row (w : World) (A : Option Addr) (ls : List LK) : Prop := ∀ i l, ls[i]? = some l → ∃ b, A = some ⟨b, 0, none⟩ ∧ Cs w b (i * 7) l
theorem Row.up {w w' : World} {A : Option Addr} {ls : List LK} (h : Row w A ls) (hb : Below w.heap.size w w') : Row w' A ls := fun i l hi => by
  obtain ⟨b, e, hc⟩ := h i l hi
  exact ⟨b, e, hc.up hb⟩
/-- a table that is read -/
structure TR (w : World) (g : Nat) (A : Option Addr) (c : Nat) (ls : List LK) : Prop where
  blk : Blk w g 29 #[.slice A ls.length c]
  row : Row w A ls
  ok : ∀ l ∈ ls, l.Ok
  few : ls.length ≤ 16384
  le : ls.length ≤ c
theorem TR.up {w w' : World} {g : Nat} {A : Option Addr} {c : Nat} {ls : List LK} (h : TR w g A c ls) (hb : Below w.heap.size w w') : TR w' g A c ls :=
  ⟨h.blk.below hb h.blk.lt, h.row.up hb, h.ok, h.few, h.le⟩

theorem any_take {ls : List LK} {P : LK → Bool} {k : Nat} {l : LK} (h : ls[k]? = some l) (ha : (ls.take k).any P = false) (hp : P l = false) : (ls.take (k + 1)).any P = false := by
  obtain ⟨hk, e⟩ := List.getElem?_eq_some_iff.1 h
  rw [List.take_succ_eq_append_getElem hk, List.any_append, ha, e]
  simp [hp]
theorem any_at {ls : List LK} {P : LK → Bool} {k : Nat} {l : LK} (h : ls[k]? = some l) (hp : P l = true) : ls.any P = true := by
  rw [List.any_eq_true]
  exact ⟨l, List.mem_of_getElem? h, hp⟩
set_option maxHeartbeats 1000000 in
set_option maxRecDepth 100000 in
theorem some_any (f : Nat) (hf : f = 43 ∨ f = 45 ∨ f = 57) (caps : Array Value) (P : LK → Bool) (g : Nat) (A : Option Addr) (c : Nat) (ls : List LK) (w : World) (hT : TR w g A c ls)
    (hc : ∀ k l b, ls[k]? = some l → A = some ⟨b, 0, none⟩ → ∀ W, Below w.heap.size w W → Calls Tryd.prog f (#[.pointer (some ⟨b, k * 7, none⟩)] ++ caps) W fun e w' => e = .returned (.bool (P l)) ∧ Below W.heap.size W w') :
    Calls Tryd.prog 42 #[.pointer (some ⟨g, 0, none⟩), .func (.func f) #[] caps] w fun e w' => e = .returned (.bool (ls.any P)) ∧ Below w.heap.size w w' := by
  have eg : ∀ args w, (callFunc f args).run Tryd.prog w = .ok (.enter f args) w := by
    rcases hf with rfl | rfl | rfl
    · exact enters_of Tryd.func43 (by kernel_rfl) rfl
    · exact enters_of Tryd.func45 (by kernel_rfl) rfl
    · exact enters_of Tryd.func57 (by kernel_rfl) rfl
  have HT := Lib.hid hT
  have HC := Lib.hid hc
  have HF := Lib.hid hT.few
  have c0 := hT.blk.cell 0
  simp only [List.getElem?_toArray, List.getElem?_cons_zero] at c0
  obtain ⟨n, hn⟩ : ∃ n, n = ls.length := ⟨_, rfl⟩
  rw [← hn] at c0
  have HN := Lib.hid hn
  clear hT hc hn
  go_enter Tryd.func42, Tryd.ntmps42
  go_wp2_with fail
  go_loopw [11] (fun i wr => ∃ k : Nat, k ≤ n ∧ i = .int .i64 (k : Int) ∧ (ls.take k).any P = false ∧ Below w.heap.size w wr) (fun i _ => n - (intOf i).toNat)
  case atStart => exact ⟨0, by omega, rfl, by simp, Below.refl _ _⟩
  case round =>
    obtain ⟨k, hk, rfl, ha, hb⟩ := hrel
    have HB := Lib.hid hb
    have HA := Lib.hid ha
    clear ha
    by_cases hlt : k < n
    · have hl : ls[k]? = some (ls[k]'(by have := HN.out; omega)) := List.getElem?_eq_getElem _
      generalize ls[k]'(by have := HN.out; omega) = l at hl
      obtain ⟨b, rfl, hcs⟩ := HT.out.row k l hl
      have HL := Lib.hid hl
      have HCK := Lib.hid (HC.out k l b hl rfl _ hb)
      have c1 := (HT.out.blk.below hb HT.out.blk.lt).cell 0
      simp only [List.getElem?_toArray, List.getElem?_cons_zero] at c1
      rw [← HN.out] at c1
      have hin : ((k : Int) < (n : Int)) := by omega
      have e1 : IntKind.i64.wrap ((k : Int) + 1) = ((k + 1 : Nat) : Int) := by rw [IntWalk.i64_in _ (by have := HF.out; have := HN.out; omega)]; omega
      clear hb hcs hl
      cases hP : P l with
      | true =>
        rw [hP] at HCK
        have HP := Lib.hid (any_at HL.out hP)
        clear hP
        go_wp2_with fail
        with_reducible refine HCK.out.mono ?_
        rintro e w2 ⟨rfl, hb2⟩
        have HB2 := Lib.hid (HB.out.trans (hb2.mono HB.out.size))
        clear hb2
        go_wp2_with fail
        go_ret
        exact ⟨by rw [HP.out]; rfl, HB2.out⟩
      | false =>
        rw [hP] at HCK
        have HP := Lib.hid (any_take HL.out HA.out hP)
        clear hP
        go_wp2_with fail
        with_reducible refine HCK.out.mono ?_
        rintro e w2 ⟨rfl, hb2⟩
        have HB2 := Lib.hid (HB.out.trans (hb2.mono HB.out.size))
        clear hb2
        go_wp2_with fail
        go_roundw
        case rel => exact ⟨k + 1, by omega, by go_num, HP.out, HB2.out⟩
        case measure => simp [intOf]; omega
    · obtain rfl : k = n := by omega
      have hin : ¬ ((k : Int) < (k : Int)) := by omega
      have HE := Lib.hid (show ls.any P = false by have := HA.out; rwa [HN.out, List.take_length] at this)
      clear hb
      go_wp2_with fail
      go_ret
      exact ⟨by rw [HE.out]; rfl, HB.out⟩
end Go.Proofs.YtlblgfpafdfilaaDoor
