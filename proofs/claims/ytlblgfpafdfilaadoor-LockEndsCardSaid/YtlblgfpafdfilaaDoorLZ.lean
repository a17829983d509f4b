/-
  STAGE 12: the answers of one small table, as mathematics.
-/
import Derived.Test.YtlblgfpafdfilaaDoorLY
namespace Go.Proofs.YtlblgfpafdfilaaDoor
open Go.RowKit Go.Sort

def x5 : Th := ⟨false, 5, ⟨#[]⟩, ⟨#[]⟩⟩
theorem seq_self (a : ByteArray) : seq a a = true := by unfold seq; exact beq_self_eq_true _
theorem bless_irr : ∀ a : List UInt8, Op.bytesLess a a = false
  | [] => by simp [Op.bytesLess]
  | x :: a => by
    have := bless_irr a
    simp [Op.bytesLess, this]
theorem slt_self (a : ByteArray) : slt a a = false := bless_irr _
theorem emp0 : emp ⟨#[]⟩ = true := seq_self _
theorem me5 : meetM x5 x5 = true := by simp [meetM, alikeM, aheadM, x5, emp0]
theorem li5 : liesM x5 x5 = true := by simp [liesM, alikeM, x5, emp0, slt_self]
theorem ma5 (m : Int) (h : 1 ≤ m ∧ m ≤ 4) : mayM x5 m = true := by simp [mayM, x5, emp0, h.1, h.2]
def L1 : List LK := [⟨1, x5, 3, true⟩]
def L2 : List LK := [⟨1, x5, 3, true⟩, ⟨2, x5, 2, false⟩]
def L3 : List LK := [⟨1, x5, 3, true⟩, ⟨2, x5, 2, false⟩, ⟨3, x5, 1, true⟩]
theorem cv1 : conM 3 2 = true := by decide
theorem cv2 : conM 3 1 = false := by decide
theorem cv3 : conM 2 1 = false := by decide
theorem cv4 : conM 1 2 = false := by decide
theorem cv5 : covM 3 1 = true := by decide
theorem ask1 : askM 1 x5 3 [] = ((true, 0), L1) := by
  simp [askM, ma5, hasM, freeM, freeTo, setH, L1, waitM, passP]
theorem ask2 : askM 2 x5 2 L1 = ((false, 0), L2) := by
  simp [askM, ma5, hasM, hasP, waitsP, freeM, freeTo, setH, L1, L2, waitM, passP, me5, cv1, List.range_succ]
theorem ask3 : askM 3 x5 1 L2 = ((true, 0), L3) := by
  simp [askM, ma5, hasM, hasP, waitsP, freeM, freeTo, setH, L2, L3, waitM, passP, me5, cv2, cv3, List.range_succ]
theorem ask4 : askM 2 x5 2 L3 = ((false, 121), L3) := by
  simp [askM, ma5, waitsP, L3]
theorem has1 : hasM 1 x5 1 L3 = true := by simp [hasM, hasP, ma5, li5, cv5, L3]
theorem pl3 {pl : List Nat} (h : Rises L3 pl) : pl = [0, 1, 2] := by
  obtain ⟨hp, hs⟩ := h
  have hl := hp.length_eq
  have hnd : pl.Nodup := hp.nodup_iff.2 List.nodup_range
  have hm : ∀ p ∈ pl, p < 3 := fun p hp' => List.mem_range.1 (hp.mem_iff.1 hp')
  match pl, hl with
  | [a, b, c], _ =>
    have ha := hm a (by simp)
    have hb := hm b (by simp)
    have hc := hm c (by simp)
    have ht : ∀ p, p < 3 → (L3.getD p okz).t = p + 1 := by
      intro p hp3
      obtain rfl | rfl | rfl : p = 0 ∨ p = 1 ∨ p = 2 := by omega
      all_goals rfl
    have h1 := hs 0 1 a b (by omega) rfl rfl
    have h2 := hs 1 2 b c (by omega) rfl rfl
    rw [ht a ha, ht b hb] at h1
    rw [ht b hb, ht c hc] at h2
    simp at hnd
    obtain rfl : a = 0 := by omega
    obtain rfl : b = 1 := by omega
    obtain rfl : c = 2 := by omega
    rfl
theorem waits3 : waitsM L3 [0, 1, 2] = [(2, 1)] := by
  simp [waitsM, outM, inL, inM, L3, waitM, passP, me5, cv1, cv4]
theorem last3 : lastsF L3 0 = 0 ∧ lastsF L3 1 = 1 ∧ lastsF L3 2 = 2 := by decide
theorem pass3 (q : LK) : L3.any (passP q) = (passP q ⟨1, x5, 3, true⟩ || passP q ⟨3, x5, 1, true⟩) := by
  simp [L3, passP]
theorem wait3 (p k : Nat) (hp : p = 0 ∨ p = 1) (hk : k < 3) : waitM (L3.any (passP (L3.getD p okz))) (L3.getD p okz) p (L3.getD k okz) k = (p == 1 && k == 0) := by
  obtain rfl | rfl | rfl : k = 0 ∨ k = 1 ∨ k = 2 := by omega
  all_goals
    rcases hp with rfl | rfl
    all_goals simp [L3, waitM, passP, me5, cv1, cv4, show conM 1 3 = false by decide]
theorem follow30 (f : Nat) : followM L3 (f + 1) 0 ⟨[0, 1, 0], [1], 1, 0⟩ = some (⟨[closedN, 1, 0], [1], 2, 0⟩, 2) := by
  have h : ∀ k, k ≤ 3 → loopM (followM L3 f) L3 (L3.getD 0 okz) 0 (⟨[2, 1, 0], [1, 0], 2, 0⟩, 2) k = some (⟨[2, 1, 0], [1, 0], 2, 0⟩, 2) := by
    intro k hk
    induction k with
    | zero => rfl
    | succ k ih =>
      rw [loopM, ih (by omega), Option.bind_some, stepM, wait3 0 k (Or.inl rfl) (by omega)]
      simp
  rw [followM, if_neg (by decide)]
  simp only [List.set_cons_zero, List.cons_append, List.nil_append]
  rw [show L3.length = 3 from rfl, h 3 (by omega)]
  simp [endM, closeM]
theorem follow31 : followM L3 4 1 ⟨[0, 0, 0], [], 0, 0⟩ = some (⟨[closedN, closedN, 0], [], 2, 0⟩, 1) := by
  have h1 : loopM (followM L3 3) L3 (L3.getD 1 okz) 1 (⟨[0, 1, 0], [1], 1, 0⟩, 1) 1 = some (⟨[closedN, 1, 0], [1], 2, 0⟩, 1) := by
    rw [loopM, loopM, Option.bind_some, stepM, wait3 1 0 (Or.inr rfl) (by omega)]
    simp [last3.1, follow30 2, closedN]
  have h : ∀ k, k ≤ 2 → loopM (followM L3 3) L3 (L3.getD 1 okz) 1 (⟨[0, 1, 0], [1], 1, 0⟩, 1) (k + 1) = some (⟨[closedN, 1, 0], [1], 2, 0⟩, 1) := by
    intro k hk
    induction k with
    | zero => exact h1
    | succ k ih =>
      rw [loopM, ih (by omega), Option.bind_some, stepM, wait3 1 (k + 1) (Or.inr rfl) (by omega)]
      simp
  rw [followM, if_neg (by decide)]
  simp only [List.set_cons_zero, List.set_cons_succ, List.nil_append]
  rw [show L3.length = 3 from rfl]
  erw [h 2 (by omega)]
  simp [endM, closeM]
theorem rings3 : ringsM L3 4 L3.length = some ⟨[closedN, closedN, 0], [], 2, 0⟩ := by
  show ringsM L3 4 3 = _
  have h0 : ringsM L3 4 1 = some ⟨[0, 0, 0], [], 0, 0⟩ := by
    rw [ringsM, ringsM, Option.bind_some]
    rfl
  have h1 : ringsM L3 4 2 = some ⟨[closedN, closedN, 0], [], 2, 0⟩ := by
    rw [ringsM, h0, Option.bind_some, if_pos ⟨rfl, rfl⟩, follow31]
    rfl
  rw [ringsM, h1, Option.bind_some, if_neg (by simp [L3])]
end Go.Proofs.YtlblgfpafdfilaaDoor
