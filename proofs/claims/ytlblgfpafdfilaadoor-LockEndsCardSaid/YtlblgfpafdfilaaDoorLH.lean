/-
  STAGE 12: isFree.
-/
import Derived.Test.YtlblgfpafdfilaaDoorLG
namespace Go.Proofs.YtlblgfpafdfilaaDoor
open Go.RowKit Go.Sort

def okz : LK := ⟨0, ⟨false, 0, ⟨#[]⟩, ⟨#[]⟩⟩, 1, false⟩
/-- the k-th waits for none of the first n ones -/
def freeTo (ls : List LK) (q : LK) (p n : Nat) : Bool := (List.range n).all fun k => !waitM (ls.any (passP q)) q p (ls.getD k okz) k
/-- the lock at place p may be held -/
def freeM (ls : List LK) (p : Nat) : Bool := freeTo ls (ls.getD p okz) p ls.length
theorem freeTo_succ (ls : List LK) (q : LK) (p n : Nat) : freeTo ls q p (n + 1) = (freeTo ls q p n && !waitM (ls.any (passP q)) q p (ls.getD n okz) n) := by
  unfold freeTo
  rw [List.range_succ, List.all_append]
  simp
theorem freeTo_false {ls : List LK} {q : LK} {p n : Nat} (h : freeTo ls q p n = false) : ∀ m, n ≤ m → freeTo ls q p m = false
  | 0, hm => by obtain rfl : n = 0 := by omega
                exact h
  | m + 1, hm => by
    rcases Nat.lt_or_ge n (m + 1) with h1 | h1
    · rw [freeTo_succ, freeTo_false h m (by omega)]; rfl
    · obtain rfl : n = m + 1 := by omega
      exact h
theorem getD_of {ls : List LK} {k : Nat} {l : LK} (h : ls[k]? = some l) : ls.getD k okz = l := by simp [List.getD, h]
set_option maxRecDepth 100000 in
set_option maxHeartbeats 2000000 in
theorem isFree_any (g : Nat) (A : Option Addr) (c : Nat) (ls : List LK) (w : World) (hT : TR w g A c ls) (hg : Gw w) (p : Nat) (hp : p < ls.length) :
    Calls Tryd.prog 64 #[.pointer (some ⟨g, 0, none⟩), .int .i64 (p : Int)] w fun e w' => e = .returned (.bool (freeM ls p)) ∧ Below w.heap.size w w' := by
  have hq : ls[p]? = some ls[p] := List.getElem?_eq_getElem hp
  unfold freeM
  rw [getD_of hq]
  generalize ls[p] = q at hq ⊢
  have HW := Lib.hid (waitsFor_any g A c ls w hT q p hq)
  have HT := Lib.hid hT
  have HG := Lib.hid hg
  have HQ := Lib.hid (hT.ok q (List.mem_of_getElem? hq))
  have HF := Lib.hid hT.few
  clear hT hg hq
  go_enter Tryd.func64, Tryd.ntmps64
  go_wp2_with (go_at_call 33; with_reducible refine HW.out.mono ?_; rintro e w1 ⟨fv, rfl, hwf, hb1⟩; have HWF := Lib.hid hwf; have HB1 := Lib.hid hb1; have HT1 := Lib.hid (HT.out.up hb1); have HG1 := Lib.hid (HG.out.below hb1); have c1 := HT1.out.blk.cell 0; simp only [List.getElem?_toArray, List.getElem?_cons_zero] at c1; clear hwf hb1)
  obtain ⟨n, hn⟩ : ∃ n, n = ls.length := ⟨_, rfl⟩
  rw [← hn] at c1 ⊢
  have HN := Lib.hid hn
  clear hn
  go_loopw [15] (fun i wr => ∃ k : Nat, k ≤ n ∧ i = .int .i64 (k : Int) ∧ freeTo ls q p k = true ∧ Below w1.heap.size w1 wr) (fun i _ => n - (intOf i).toNat)
  case atStart => exact ⟨0, by omega, rfl, rfl, Below.refl _ _⟩
  case round =>
    obtain ⟨k, hk, rfl, ha, hb⟩ := hrel
    have HB := Lib.hid hb
    have HA := Lib.hid ha
    clear ha
    by_cases hlt : k < n
    · have hl : ls[k]? = some (ls[k]'(by have := HN.out; omega)) := List.getElem?_eq_getElem _
      generalize ls[k]'(by have := HN.out; omega) = l at hl
      obtain ⟨caps, rfl, hc⟩ := HWF.out.call HT1.out HG1.out HQ.out hb k l hl
      have HC := Lib.hid hc
      have HV := Lib.hid (show freeTo ls q p (k + 1) = !waitM (ls.any (passP q)) q p l k by rw [freeTo_succ, HA.out, getD_of hl]; rfl)
      have eg : ∀ args w, (callFunc 59 args).run Tryd.prog w = .ok (.enter 59 args) w := enters_of Tryd.func59 (by kernel_rfl) rfl
      have hin : ((k : Int) < (n : Int)) := by omega
      have e1 : IntKind.i64.wrap ((k : Int) + 1) = ((k + 1 : Nat) : Int) := by rw [IntWalk.i64_in _ (by have := HF.out; have := HN.out; omega)]; omega
      clear hb hl hc
      generalize waitM (ls.any (passP q)) q p l k = r at HC HV
      cases r with
      | true =>
        go_wp2_with fail
        with_reducible refine HC.out.mono ?_
        rintro e w2 ⟨rfl, hb2⟩
        have HB2 := Lib.hid (HB.out.trans (hb2.mono HB.out.size))
        clear hb2
        go_wp2_with fail
        go_ret
        exact ⟨by rw [freeTo_false HV.out ls.length (by have := HN.out; omega)]; rfl, below_trans HB1.out HB2.out⟩
      | false =>
        go_wp2_with fail
        with_reducible refine HC.out.mono ?_
        rintro e w2 ⟨rfl, hb2⟩
        have HB2 := Lib.hid (HB.out.trans (hb2.mono HB.out.size))
        clear hb2
        go_wp2_with fail
        go_roundw
        case rel => exact ⟨k + 1, by omega, by go_num, HV.out, HB2.out⟩
        case measure => simp [intOf]; omega
    · obtain rfl : k = n := by omega
      have hin : ¬ ((k : Int) < (k : Int)) := by omega
      clear hb
      go_wp2_with fail
      go_ret
      exact ⟨by rw [← HN.out, HA.out]; rfl, below_trans HB1.out HB.out⟩
end Go.Proofs.YtlblgfpafdfilaaDoor
