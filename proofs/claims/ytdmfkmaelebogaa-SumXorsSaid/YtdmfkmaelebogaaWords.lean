/-
  WORDS FOR MEMORY AND NUMBERS: bytes that a slice reads as, a block that is known whole, and how the walk's numbers are the plain arithmetic's.
-/
import Derived.Test.YtdmfkmaelebogaaRows
import Derived.Test.YtdmfkmaelebogaaMath
import Derived.WalkKit
import Derived.WalkLawsBesides
import Derived.WalkSpells
import Derived.OpenShut
import Derived.Deep.Draws
import Derived.Laws.OwnMore
import Derived.Deep.AppendLies
import Derived.Lib.Hide
namespace Go.Proofs.Ytdmfkmaelebogaa
open Go.RowKit

/-! ### Numbers -/
theorem and1 (r : Nat) (hr : r < 4294967296) : bits .and .u32 (r : Int) 1 = ((r % 2 : Nat) : Int) := by
  have h := u32_and_nat r 1 hr (by decide)
  rw [Nat.and_one_is_mod] at h
  exact h
theorem odd_yes {r : Nat} (hr : r < 4294967296) (h : (bits .and .u32 (r : Int) 1 == 1) = true) : r % 2 = 1 := by
  rw [and1 r hr] at h
  simp at h
  omega
theorem odd_no {r : Nat} (hr : r < 4294967296) (h : (bits .and .u32 (r : Int) 1 == 1) = false) : ¬ r % 2 = 1 := by
  rw [and1 r hr] at h
  simp at h
  omega
theorem half (r : Nat) : (r : Int) / 2 = ((r / 2 : Nat) : Int) := by omega
theorem xor_nat (a b : Nat) (ha : a < 4294967296) (hb : b < 4294967296) : bits .xor .u32 (a : Int) (b : Int) = ((a ^^^ b : Nat) : Int) := u32_xor_nat a b ha hb
theorem stp_yes {r : Nat} (hr : r < 4294967296) (h : r % 2 = 1) : bits .xor .u32 ((r : Int) / 2) 2197175160 = ((Crc.stp r : Nat) : Int) := by
  have e := xor_nat (r / 2) 2197175160 (by omega) (by decide)
  rw [half, Crc.stp, if_pos h]
  exact e
theorem stp_no {r : Nat} (hr : r < 4294967296) (h : ¬ r % 2 = 1) : bits .xor .u32 ((r : Int) / 2) 0 = ((Crc.stp r : Nat) : Int) := by
  have e := xor_nat (r / 2) 0 (by omega) (by decide)
  rw [half, Crc.stp, if_neg h]
  exact e

/-! ### Bytes in memory -/
/-- The slice value '.slice A n c' reads as the bytes l. -/
def RB (w : World) (A : Option Addr) (n : Nat) (l : List Nat) : Prop :=
  l.length = n ∧ (∀ x ∈ l, x < 256) ∧ (0 < n → ∃ ad, A = some ad ∧ ad.block < w.heap.size ∧ ∀ j, j < n → w.cell? (ad.add j) = some (.int .u8 ((l.getD j 0 : Nat) : Int)))

theorem block_of_add (a : Addr) (n : Nat) : (a.add n).block = a.block := by unfold Addr.add; split <;> rfl
theorem add_of_add (a : Addr) (i j : Nat) : (a.add i).add j = a.add (i + j) := by
  unfold Addr.add
  by_cases hi : i = 0 <;> by_cases hj : j = 0 <;> simp [hi, hj, Nat.add_assoc]

section
variable {w w' : World} {A : Option Addr} {n : Nat} {l : List Nat}
theorem RB.len (h : RB w A n l) : l.length = n := h.1
theorem RB.lt (h : RB w A n l) : ∀ x ∈ l, x < 256 := h.2.1
theorem RB.nil_ : RB w A 0 [] := ⟨rfl, by simp, fun h => absurd h (by omega)⟩
theorem RB.at_ (h : RB w A n l) {k : Nat} (hk : k < n) : ∃ ad, A = some ad ∧ l.getD k 0 < 256 ∧ w.cell? (ad.add k) = some (.int .u8 ((l.getD k 0 : Nat) : Int)) := by
  obtain ⟨h1, h2, h3⟩ := h
  obtain ⟨ad, e, _, hc⟩ := h3 (by omega)
  refine ⟨ad, e, ?_, hc k hk⟩
  have hl : k < l.length := by omega
  have e2 : l.getD k 0 = l[k] := by simp [hl]
  rw [e2]
  exact h2 _ (List.getElem_mem _)
theorem RB.keep (h : RB w A n l) (hs : w.heap.size ≤ w'.heap.size) (hk : ∀ p : Addr, p.block < w.heap.size → w'.cell? p = w.cell? p) : RB w' A n l := by
  obtain ⟨h1, h2, h3⟩ := h
  refine ⟨h1, h2, fun hn => ?_⟩
  obtain ⟨ad, e, hb, hc⟩ := h3 hn
  exact ⟨ad, e, by omega, fun j hj => (hk _ (by rw [block_of_add]; exact hb)).trans (hc j hj)⟩
theorem RB.below (h : RB w A n l) (hb : Below w.heap.size w w') : RB w' A n l := h.keep hb.size fun _ hp => hb.cell hp
theorem RB.drew (h : RB w A n l) : RB w.drew A n l := h
theorem RB.drewN (h : RB w A n l) (k : Nat) : RB (w.drewN k) A n l := h
theorem RB.alloc (h : RB w A n l) (o : Obj) : RB (w.alloc o) A n l := h.below ((Below.refl _ _).alloc (Nat.le_refl _) o)
/-- the first k bytes -/
theorem RB.take (h : RB w A n l) {k : Nat} (hk : k ≤ n) : RB w A k (l.take k) := by
  obtain ⟨h1, h2, h3⟩ := h
  refine ⟨by simp; omega, fun x hx => h2 x (List.mem_of_mem_take hx), fun hn => ?_⟩
  obtain ⟨ad, e, hb, hc⟩ := h3 (by omega)
  refine ⟨ad, e, hb, fun j hj => ?_⟩
  rw [hc j (by omega)]
  simp [hj]
/-- from byte k on -/
theorem RB.drop (h : RB w A n l) {k c : Nat} (hk : k ≤ n) (hc : n ≤ c) : RB w (if c = k then A else A.map (·.add k)) (n - k) (l.drop k) := by
  obtain ⟨h1, h2, h3⟩ := h
  refine ⟨by simp; omega, fun x hx => h2 x (List.mem_of_mem_drop hx), fun hn => ?_⟩
  obtain ⟨ad, rfl, hb, hcell⟩ := h3 (by omega)
  rw [if_neg (by omega)]
  refine ⟨ad.add k, rfl, by rw [block_of_add]; exact hb, fun j hj => ?_⟩
  rw [add_of_add, hcell _ (by omega)]
  simp
end

/-- the bytes as cells -/
def u8s (l : List Nat) : List Value := l.map fun x : Nat => .int .u8 (x : Int)

/-- Block g is just the cells cs of element type t, none frozen. -/
def Blk (w : World) (g : Nat) (t : TypeId) (cs : Array Value) : Prop := w.heap[g]? = some (.cells cs t (0, 0))
section
variable {w w' : World} {g : Nat} {t : TypeId} {cs : Array Value}
theorem Blk.lt (h : Blk w g t cs) : g < w.heap.size := by
  rcases Nat.lt_or_ge g w.heap.size with hlt | hge
  · exact hlt
  · unfold Blk at h; rw [Array.getElem?_eq_none hge] at h; cases h
theorem Blk.cell (h : Blk w g t cs) (i : Nat) : w.cell? ⟨g, i, none⟩ = cs[i]? := cell_of_row w g i cs t (0, 0) h
theorem Blk.frozen (h : Blk w g t cs) (i : Nat) : w.frozen? ⟨g, i, none⟩ = false := by
  unfold Blk at h
  simp [World.frozen?, h]
theorem Blk.new (w : World) (t : TypeId) (cs : Array Value) : Blk (w.alloc (.cells cs t)) w.heap.size t cs := heap_alloc_new w _
theorem Blk.drew (h : Blk w g t cs) : Blk w.drew g t cs := h
theorem Blk.drewN (h : Blk w g t cs) (n : Nat) : Blk (w.drewN n) g t cs := h
theorem Blk.alloc (h : Blk w g t cs) (o : Obj) : Blk (w.alloc o) g t cs := (Below.heap_alloc w o g h.lt).trans h
theorem Blk.set_ (h : Blk w g t cs) (i : Nat) (u : Value) : Blk (w.setCell ⟨g, i, none⟩ u) g t (cs.setIfInBounds i u) := by
  unfold Blk at h ⊢
  simp [World.setCell, Array.getElem?_modify, h]
theorem Blk.below {B : Nat} (h : Blk w g t cs) (hb : Below B w w') (hg : g < B) : Blk w' g t cs := (hb.block g hg).trans h
theorem RB.of_blk {l : List Nat} {n : Nat} (h : Blk w g t (u8s l).toArray) (hl : ∀ x ∈ l, x < 256) (hn : l.length = n) : RB w (some ⟨g, 0, none⟩) n l := by
  refine ⟨hn, hl, fun _ => ⟨_, rfl, h.lt, fun j hj => ?_⟩⟩
  have e : (⟨g, 0, none⟩ : Addr).add j = ⟨g, j, none⟩ := by
    unfold Addr.add
    split
    · rename_i h0; rw [h0]
    · simp
  rw [e, h.cell j]
  subst hn
  simp [u8s, hj]
end
end Go.Proofs.Ytdmfkmaelebogaa
