/-
STAGE 8: THE ORDER OF BYTES, where a text would stand among cells; sort.Search.
-/
import Derived.Test.YtcajidlekfkjlaaPG
import Derived.Test.YtcajidlekfkjlaaPH
import Derived.Lib.QuietBelow
namespace Go.Proofs.Ytcajidlekfkjlaa
open Go.RowKit
set_option maxRecDepth 100000 in
theorem bless_trans : ∀ a b c : List UInt8, Op.bytesLess a b = true → Op.bytesLess b c = true → Op.bytesLess a c = true
  | [], [], _, h, _ => by simp [Op.bytesLess] at h
  | [], _ :: _, [], _, h => by simp [Op.bytesLess] at h
  | [], _ :: _, _ :: _, _, _ => by simp [Op.bytesLess]
  | _ :: _, [], _, h, _ => by simp [Op.bytesLess] at h
  | _ :: _, _ :: _, [], _, h => by simp [Op.bytesLess] at h
  | x :: a, y :: b, z :: c, h, k => by
    have ih := bless_trans a b c
    unfold Op.bytesLess at h k ⊢
    simp only [Bool.or_eq_true, Bool.and_eq_true, decide_eq_true_eq, beq_iff_eq] at h k ⊢
    rcases h with h | ⟨rfl, h⟩
    · rcases k with k | ⟨rfl, k⟩
      · exact Or.inl (UInt8.lt_trans h k)
      · exact Or.inl h
    · rcases k with k | ⟨rfl, k⟩
      · exact Or.inl k
      · exact Or.inr ⟨rfl, ih h k⟩
set_option maxRecDepth 100000 in
theorem ltb_trans {a b c : List Nat} (h : ltb a b = true) (k : ltb b c = true) : ltb a c = true := bless_trans _ _ _ h k
set_option maxRecDepth 100000 in
theorem bless_irr : ∀ a : List UInt8, Op.bytesLess a a = false
  | [] => by simp [Op.bytesLess]
  | x :: a => by
    have := bless_irr a
    simp [Op.bytesLess, this]
set_option maxRecDepth 100000 in
theorem ltb_irr (a : List Nat) : ltb a a = false := bless_irr _
/-- where a leaf's cell stands, or would stand -/
def lbd (e : Nat) (es : List CE) (d : List Nat) : Nat := es.findIdx fun c => !ltb (ent e c.d) d
set_option maxRecDepth 100000 in
theorem lbd_le (e : Nat) (es : List CE) (d : List Nat) : lbd e es d ≤ es.length := List.findIdx_le_length
set_option maxRecDepth 100000 in
theorem rise_at {e : Nat} {es : List CE} (h : rise e es = true) {i : Nat} (hi : i < es.length) : (es.getD i cz).u = true ∧ (0 < i → ltb (ent e (es.getD (i - 1) cz).d) (ent e (es.getD (i) cz).d) = true) := by
  unfold rise at h
  rw [all_rng] at h
  have := h i hi
  unfold okAt at this
  simp only [Bool.and_eq_true, Bool.or_eq_true, beq_iff_eq] at this
  refine ⟨this.1, fun h0 => ?_⟩
  rcases this.2 with h1 | h1
  · omega
  · exact h1
set_option maxRecDepth 100000 in
theorem rise_lt {e : Nat} {es : List CE} (h : rise e es = true) {i : Nat} : ∀ {j : Nat}, i < j → j < es.length → ltb (ent e (es.getD (i) cz).d) (ent e (es.getD (j) cz).d) = true
  | 0, h1, _ => by omega
  | j + 1, h1, h2 => by
    have h3 := (rise_at h h2).2 (by omega)
    rw [show j + 1 - 1 = j by omega] at h3
    rcases Nat.lt_or_ge i j with h4 | h4
    · exact ltb_trans (rise_lt h h4 (by omega)) h3
    · obtain rfl : i = j := by omega
      exact h3
set_option maxRecDepth 100000 in
theorem getD_lt {es : List CE} {i : Nat} (hi : i < es.length) : es.getD i cz = es[i] := by simp [List.getD, hi]
set_option maxRecDepth 100000 in
theorem lbd_below {e : Nat} {es : List CE} {d : List Nat} {k : Nat} (hk : k < lbd e es d) : ltb (ent e (es.getD (k) cz).d) d = true := by
  have h1 := List.not_of_lt_findIdx hk
  have h2 : k < es.length := Nat.lt_of_lt_of_le hk (lbd_le e es d)
  rw [getD_lt h2]
  simpa using h1
set_option maxRecDepth 100000 in
theorem lbd_at {e : Nat} {es : List CE} {d : List Nat} (hk : lbd e es d < es.length) : ltb (ent e (es.getD (lbd e es d) cz).d) d = false := by
  have h1 := List.findIdx_getElem (xs := es) (p := fun c : CE => !ltb (ent e c.d) d) (w := show List.findIdx (fun c : CE => !ltb (ent e c.d) d) es < es.length from hk)
  rw [getD_lt hk]
  simpa [lbd] using h1
set_option maxRecDepth 100000 in
theorem lbd_above {e : Nat} {es : List CE} {d : List Nat} (h : rise e es = true) {k : Nat} (hk : lbd e es d ≤ k) (hl : k < es.length) : ltb (ent e (es.getD (k) cz).d) d = false := by
  rcases Nat.lt_or_ge (lbd e es d) k with h1 | h1
  · rw [Bool.eq_false_iff]
    intro h2
    have h3 := ltb_trans (rise_lt h h1 hl) h2
    rw [lbd_at (by omega)] at h3
    cases h3
  · obtain rfl : k = lbd e es d := by omega
    exact lbd_at hl
section
attribute [local go_sem high] run_neqL run_eqL
set_option maxRecDepth 100000 in
theorem equal_any {T T' : Nat → Prop} (A B : Option Addr) (n c m cb : Nat) (l k : List Nat) (w : World) (h : RB w T A n l) (h' : RB w T' B m k) :
    Calls Try.prog 75 #[.slice A n c, .slice B m cb] w fun e w' => e = .returned (.bool (seq l k)) ∧ w = w' := by
  have h1 := run_conv _ A n c l w h
  have h2 := run_conv _ B m cb k w h'
  clear h h'
  go_enter Try.func75, Try.ntmps75
  go_wp2_with fail
  go_ret
  exact ⟨rfl, rfl⟩
end
def fnV (a b : Nat) : Value := .func (.func 71) #[] #[.pointer (some ⟨a, 0, none⟩), .pointer (some ⟨b, 0, none⟩)]
set_option maxHeartbeats 1000000 in
set_option maxRecDepth 100000 in
theorem search_any (w : World) (n a b : Nat) (P : Nat → Bool) (q : Nat) (hq : q ≤ n) (h1 : ∀ k, k < q → P k = false) (h2 : ∀ k, q ≤ k → k < n → P k = true) (hn : n ≤ 1000)
    (hc : ∀ W, Below w.heap.size w W → ∀ i, i < n → Calls Try.prog 71 #[.int .i64 (i : Int), .pointer (some ⟨a, 0, none⟩), .pointer (some ⟨b, 0, none⟩)] W fun e w' => e = .returned (.bool (P i)) ∧ Below W.heap.size W w') :
    Calls Try.prog 70 #[.int .i64 (n : Int), fnV a b] w fun e w' => e = .returned (.int .i64 (q : Int)) ∧ Below w.heap.size w w' := by
  have HC := Lib.hid hc
  have H1 := Lib.hid h1
  have H2 := Lib.hid h2
  clear hc h1 h2
  unfold fnV
  go_enter Try.func70, Try.ntmps70
  go_wp2
  go_loopw [5, 6] (fun u v wr => ∃ i j : Nat, u = .int .i64 (i : Int) ∧ v = .int .i64 (j : Int) ∧ i ≤ q ∧ q ≤ j ∧ j ≤ n ∧ Below w.heap.size w wr) (fun u v _ => (intOf v).toNat - (intOf u).toNat)
  case atStart => exact ⟨0, n, rfl, rfl, by omega, hq, by omega, Below.refl _ _⟩
  case round =>
    obtain ⟨i, j, rfl, rfl, hi, hj, hjn, hb⟩ := hrel
    have HB := Lib.hid hb
    clear hb
    by_cases hlt : i < j
    · have hin : ((i : Int) < (j : Int)) := by omega
      obtain ⟨s, hs⟩ : ∃ s, s = i + j := ⟨_, rfl⟩
      obtain ⟨m, hm⟩ : ∃ m, m = s / 2 := ⟨_, rfl⟩
      have e1 : IntKind.i64.wrap ((i : Int) + (j : Int)) = (s : Int) := by rw [IntWalk.i64_in _ (by omega)]; omega
      have e2 : IntKind.u64.wrap (s : Int) = (s : Int) := by rw [IntKind.wrap_u64]; omega
      have e3 : (s : Int) / 2 = (m : Int) := by omega
      have e4 : IntKind.i64.wrap (m : Int) = (m : Int) := IntWalk.i64_in _ (by omega)
      have e5 : IntKind.i64.wrap ((m : Int) + 1) = ((m + 1 : Nat) : Int) := by rw [IntWalk.i64_in _ (by omega)]; omega
      have hmi : i ≤ m ∧ m < j := by omega
      have HMI := Lib.hid hmi
      have HCM := Lib.hid (HC.out _ HB.out m (by omega))
      clear hs hm hmi
      cases hP : P m with
      | false =>
        rw [hP] at HCM
        have HMQ : Hid (m < q) := by
          rcases Nat.lt_or_ge m q with h | h
          · exact h
          · have := H2.out m h (by have := HMI.out; omega)
            rw [this] at hP; cases hP
        clear hP
        go_wp2_with fail
        with_reducible refine HCM.out.mono ?_
        rintro e w2 ⟨rfl, hb2⟩
        have HB2 := Lib.hid (HB.out.trans (hb2.mono HB.out.size))
        clear hb2
        go_wp2_with fail
        go_roundw
        case rel => exact ⟨m + 1, j, by go_num, rfl, by have := HMQ.out; omega, hj, hjn, HB2.out⟩
        case measure => simp [intOf]; have := HMI.out; omega
      | true =>
        rw [hP] at HCM
        have HMQ : Hid (q ≤ m) := by
          rcases Nat.lt_or_ge m q with h | h
          · have := H1.out m h
            rw [this] at hP; cases hP
          · exact h
        clear hP
        go_wp2_with fail
        with_reducible refine HCM.out.mono ?_
        rintro e w2 ⟨rfl, hb2⟩
        have HB2 := Lib.hid (HB.out.trans (hb2.mono HB.out.size))
        clear hb2
        go_wp2_with fail
        go_roundw
        case rel => exact ⟨i, m, rfl, rfl, hi, HMQ.out, by have := HMI.out; omega, HB2.out⟩
        case measure => simp [intOf]; have := HMI.out; omega
    · have h1d : decide ((i : Int) < (j : Int)) = false := decide_eq_false (by omega)
      have h1d2 : decide (i < j) = false := decide_eq_false hlt
      have HIQ := Lib.hid (show i = q by omega)
      go_wp2_with fail
      go_ret
      exact ⟨by rw [HIQ.out]; rfl, HB.out⟩
end Go.Proofs.Ytcajidlekfkjlaa
