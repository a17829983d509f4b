/-
STAGE 8: what the law's alive asks.
-/
import Derived.Test.YtcajidlekfkjlaaNX
namespace Go.Proofs.Ytcajidlekfkjlaa
open Go.RowKit

set_option maxHeartbeats 2000000 in
set_option maxRecDepth 100000 in
theorem numbersL_any {T T' : Nat → Prop} (A B : Option Addr) (n c m cb : Nat) (l k : List Nat) (w : World) (h : NR w T A n l) (h' : NR w T' B m k) (hn : n ≤ 1000000) :
    Calls Try.prog 13 #[.slice A n c, .slice B m cb] w fun e w' => e = .returned (.bool (decide (l = k))) ∧ Below w.heap.size w w' := by
  have hl := h.len
  have hk := h'.len
  by_cases hnm : n = m
  · subst hnm
    have d0 : ((n : Int) != (n : Int)) = false := by simp
    have H1 := Lib.hid h
    have H2 := Lib.hid h'
    have HL := Lib.hid hl
    have HK := Lib.hid hk
    clear h h' hl hk
    go_enter Try.func13, Try.ntmps13
    go_wp2_with fail
    go_loopw [5] (fun i wr => ∃ q : Nat, q ≤ n ∧ i = .int .i64 (q : Int) ∧ l.take q = k.take q ∧ Below w.heap.size w wr) (fun i _ => n - (intOf i).toNat)
    case atStart => exact ⟨0, Nat.zero_le _, rfl, rfl, Below.refl _ _⟩
    case round =>
      obtain ⟨q, hq, rfl, ht, hb⟩ := hrel
      have HT := Lib.hid ht
      have HB := Lib.hid hb
      clear ht
      by_cases hlt : q < n
      · have d9 : decide ((q : Int) < (n : Int)) = true := decide_eq_true (by omega)
        have d9b : decide (q < n) = true := decide_eq_true hlt
        have hws : IntKind.i64.wrap ((q : Int) + 1) = ((q + 1 : Nat) : Int) := by rw [IntWalk.i64_in _ (by omega)]; omega
        have hwq : IntKind.i64.wrap (q : Int) = (q : Int) := IntWalk.i64_in _ (by omega)
        obtain ⟨a1, rfl, _, c1⟩ := (H1.out.move hb.size (fun p hp _ => hb.cell (p := p) hp)).at_ hlt
        obtain ⟨a2, rfl, _, c2⟩ := (H2.out.move hb.size (fun p hp _ => hb.cell (p := p) hp)).at_ hlt
        obtain ⟨x, hx⟩ : ∃ x, x = l.getD q 0 := ⟨_, rfl⟩
        obtain ⟨y, hy⟩ : ∃ y, y = k.getD q 0 := ⟨_, rfl⟩
        rw [← hx] at c1
        rw [← hy] at c2
        have hql : ((q : Int) < (n : Int)) := by omega
        have HLT := Lib.hid hlt
        have HX := Lib.hid hx
        have HY := Lib.hid hy
        by_cases hxy : x = y
        · have d1 : ((x : Int) != (y : Int)) = false := by rw [hxy]; simp
          have HXY := Lib.hid hxy
          clear hxy hx hy hb
          go_wp2_with fail
          go_quiet (fail)
          go_wp2_with fail
          go_roundw
          case rel => exact ⟨q + 1, by have := HLT.out; omega, by go_num, take_next HT.out (by have := HL.out; have := HLT.out; omega) (by have := HK.out; have := HLT.out; omega) (by rw [← HX.out, ← HY.out, HXY.out]), ⟨HB.out.os, HB.out.tape, HB.out.output, HB.out.size, HB.out.block⟩⟩
          case measure => simp [intOf]; have := HLT.out; omega
        · have d1 : ((x : Int) != (y : Int)) = true := bne_iff_ne.2 (by omega)
          have HXY := Lib.hid hxy
          clear hxy hx hy hb
          go_wp2_with fail
          go_quiet (fail)
          go_wp2_with fail
          go_ret
          refine ⟨?_, ⟨HB.out.os, HB.out.tape, HB.out.output, HB.out.size, HB.out.block⟩⟩
          rw [decide_eq_false (fun e => HXY.out (by rw [HX.out, HY.out, e]))]
          rfl
      · have HQ := Lib.hid (show q = n by omega)
        have d9 : decide ((q : Int) < (n : Int)) = false := decide_eq_false (by omega)
        have d9b : decide (q < n) = false := decide_eq_false hlt
        clear hb
        go_wp2_with fail
        go_ret
        refine ⟨?_, HB.out⟩
        have ht := HT.out
        rw [List.take_of_length_le (by have := HL.out; have := HQ.out; omega), List.take_of_length_le (by have := HK.out; have := HQ.out; omega)] at ht
        rw [decide_eq_true ht]
        rfl
  · have d0 : ((n : Int) != (m : Int)) = true := bne_iff_ne.2 (by omega)
    have hne : decide (l = k) = false := decide_eq_false (fun e => hnm (by rw [← hl, ← hk, e]))
    rw [hne]
    clear h h' hl hk hnm hne
    go_enter Try.func13, Try.ntmps13
    go_wp2_with fail
    go_ret
    exact ⟨rfl, Below.refl _ _⟩
/-! ### The small tree -/
set_option maxRecDepth 100000 in
theorem small_get (z : Nat) : (smallT z).get 7 = (smallP z, 0) := rfl
set_option maxRecDepth 100000 in
theorem small_es (z : Nat) : (smallP z).es = [⟨true, 0, [98]⟩, ⟨true, 0, [100]⟩] := rfl
set_option maxRecDepth 100000 in
theorem small_ok (z : Nat) : okP (smallP z) = true := by
  unfold okP
  rw [small_es]
  show (may 2 [⟨true, 0, [98]⟩, ⟨true, 0, [100]⟩] && (decide ((2 : Int) = 2) || _)) = true
  have : may 2 [⟨true, 0, [98]⟩, ⟨true, 0, [100]⟩] = true := by decide
  rw [this]
  rfl
set_option maxRecDepth 100000 in
theorem small_ask (z : Nat) : askM (some (smallT z)) 7 = .ok (smallP z) := by
  unfold askM
  simp [small_get, small_ok]
set_option maxRecDepth 100000 in
theorem small_leaf (z : Nat) : ∀ q p, askM (some (smallT z)) q = .ok p → p.k = 2 := by
  intro q p h
  obtain ⟨t, ht, _, hg, hok⟩ := ask_ok_inv h
  injection ht with ht
  subst ht
  unfold TV.get at hg
  rw [if_neg (by simp [smallT])] at hg
  split at hg
  · rename_i x hx
    have hm := List.mem_of_find?_eq_some hx
    simp only [smallT, List.mem_cons, List.not_mem_nil, or_false] at hm
    subst hm
    injection hg with hg _
    subst hg
    rfl
  · injection hg with _ hg
    cases hg
set_option maxRecDepth 100000 in
theorem small_way (z : Nat) (x : List Nat) : wayM (some (smallT z)) x 8 7 = .ok [⟨7, smallP z⟩] := by
  unfold wayM
  rw [small_ask]
  rfl
set_option maxRecDepth 100000 in
theorem small_path (z : Nat) : pathM (some (smallT z)) [99] 7 = .ok [7] := by
  unfold pathM
  rw [if_pos ⟨by decide, by decide⟩, small_way]
  rfl
set_option maxRecDepth 100000 in
theorem small_place (z : Nat) : placeN (smallP z) [99] = 1 := by
  unfold placeN
  rw [small_es]
  show lbd (eo 2) _ _ = 1
  decide
set_option maxRecDepth 100000 in
theorem small_seek (z : Nat) : seekM (some (smallT z)) [99] 7 = .ok (7, 1) := by
  unfold seekM
  rw [if_neg (by decide), small_way]
  show seekL (some (smallT z)) [99] 8191 7 (smallP z) = _
  unfold seekL
  rw [small_place]
  rfl
set_option maxRecDepth 100000 in
theorem small_no (z : Nat) : thereP (smallP z) [99] = false := by
  unfold thereP placeN
  rw [small_es]
  show (decide (lbd (eo 2) [⟨true, 0, [98]⟩, ⟨true, 0, [100]⟩] [99] < 2) && seq (([⟨true, 0, [98]⟩, ⟨true, 0, [100]⟩] : List CE).getD (lbd (eo 2) [⟨true, 0, [98]⟩, ⟨true, 0, [100]⟩] [99]) cz).d [99]) = false
  decide
set_option maxRecDepth 100000 in
theorem small_yes (z : Nat) : thereP (smallP z) [98] = true := by
  unfold thereP placeN
  rw [small_es]
  show (decide (lbd (eo 2) [⟨true, 0, [98]⟩, ⟨true, 0, [100]⟩] [98] < 2) && seq (([⟨true, 0, [98]⟩, ⟨true, 0, [100]⟩] : List CE).getD (lbd (eo 2) [⟨true, 0, [98]⟩, ⟨true, 0, [100]⟩] [98]) cz).d [98]) = true
  decide
set_option maxRecDepth 100000 in
theorem small_room (z : Nat) : 1 ≤ room (smallP z).k (smallP z).es := by
  rw [small_es]
  show 1 ≤ room 2 _
  decide
set_option maxRecDepth 100000 in
theorem small_e (z : Nat) : ∀ x ∈ (smallP z).l, 1 ≤ x.m ∧ x.m ≤ 146 := by
  intro x hx
  simp only [smallP, List.mem_cons, List.not_mem_nil, or_false] at hx
  rcases hx with rfl | rfl <;> exact ⟨by simp, by simp⟩
set_option maxRecDepth 100000 in
theorem s99 : strOf [99] = ⟨#[99]⟩ := rfl
set_option maxRecDepth 100000 in
theorem s98 : strOf [98] = ⟨#[98]⟩ := rfl
end Go.Proofs.Ytcajidlekfkjlaa
