/-
THE WALKS OF takesOps, hasUnused, Room both.
-/
import Derived.Test.YtcajidlekfkjlaaPD
import Derived.Test.YtcajidlekfkjlaaPG
namespace Go.Proofs.Ytcajidlekfkjlaa
open Go.RowKit

def takes (k : Int) : Bool := k == 1 || k == 2
def unused (l : List CE) : Bool := l.any fun c => !c.u
/-- how many bytes may be put at most, where the page may be -/
def roomN (l : List CE) : Nat := if unused l then min (508 - psz l) 180 else if l.length = 60 then 0 else min (506 - psz l) 180
def room (k : Int) (l : List CE) : Nat := if takes k && may k l then roomN l else 0
set_option maxRecDepth 100000 in
theorem takesOps_any (k : Int) (w : World) : Calls Try.prog 87 #[.int .i64 k] w fun e w' => e = .returned (.bool (takes k)) ∧ w = w' := by
  have ht : takes k = ((k == 1) || (k == 2)) := rfl
  rw [ht]
  clear ht
  cases h1 : (k == 1) with
  | true =>
    go_enter Try.func87, Try.ntmps87
    go_wp2
    go_ret
    exact ⟨rfl, rfl⟩
  | false =>
    go_enter Try.func87, Try.ntmps87
    go_wp2
    go_ret
    exact ⟨by simp, rfl⟩
set_option maxRecDepth 100000 in
theorem any_next {l : List CE} {k : Nat} {x : CE} (h : l[k]? = some x) (ha : unused (l.take k) = false) (hf : x.u = true) : unused (l.take (k + 1)) = false := by
  have hk : k < l.length := by
    rcases Nat.lt_or_ge k l.length with h' | h'
    · exact h'
    · rw [List.getElem?_eq_none h'] at h; cases h
  have e : l[k] = x := by rw [List.getElem?_eq_getElem hk] at h; injection h
  unfold unused at ha ⊢
  rw [List.take_succ_eq_append_getElem hk, List.any_append, ha, e]
  simp [hf]
set_option maxRecDepth 100000 in
theorem any_here {l : List CE} {k : Nat} {x : CE} (h : l[k]? = some x) (hf : x.u = false) : unused l = true := by
  unfold unused
  rw [List.any_eq_true]
  exact ⟨x, List.mem_of_getElem? h, by rw [hf]; rfl⟩
set_option maxRecDepth 100000 in
theorem may_psz {k : Int} {l : List CE} (h : may k l = true) : psz l ≤ 512 ∧ 18 ≤ psz l ∧ l.length ≤ 60 := by
  unfold may at h
  simp only [Bool.and_eq_true, decide_eq_true_eq] at h
  exact ⟨h.2.2.1, by unfold psz; omega, h.1⟩
end Go.Proofs.Ytcajidlekfkjlaa
