/-
STAGE 12: LockRings' mathematics: who has given back is in no ring; a row of numbers of the law's own beside a table.
-/
import Derived.Test.YtlblgfpafdfilaaDoorNI
import Derived.Test.YtlblgfpafdfilaaDoorNL
namespace Go.Proofs.YtlblgfpafdfilaaDoor
open Go.RowKit Go.Sort

theorem setH_ts {ls : List LK} {p : Nat} (hp : p < ls.length) (r : Bool) : (setH ls p r).map (·.t) = ls.map (·.t) := by
  have hq : ls[p]? = some ls[p] := List.getElem?_eq_getElem hp
  apply List.ext_getElem?
  intro i
  rw [List.getElem?_map, List.getElem?_map, setH_at hq]
  by_cases e : i = p
  · subst e; rw [if_pos rfl, hq]; rfl
  · rw [if_neg e]
theorem passM_ts (ls : List LK) : ∀ n, n ≤ ls.length → (passM ls n).1.map (·.t) = ls.map (·.t)
  | 0, _ => rfl
  | n + 1, hn => by
    have ih := passM_ts ls n (by omega)
    have hl := (passM_len ls n).1
    rw [passM_succ]
    unfold relS
    split
    · exact ih
    · simp only
      rw [setH_ts (by omega), ih]
theorem release_gone {ls : List LK} {t : Nat} {y : LK} (hy : y ∈ (releaseM t ls).1) : y.t ≠ t := by
  have h1 : y.t ∈ (releaseM t ls).1.map (·.t) := List.mem_map.2 ⟨y, hy, rfl⟩
  unfold releaseM at h1
  rw [passM_ts _ _ (Nat.le_refl _)] at h1
  obtain ⟨x, hx, e⟩ := List.mem_map.1 h1
  have := (List.mem_filter.1 hx).2
  rw [← e]
  simpa using this
theorem wre_gone {ls : List LK} {t : Nat} : ¬ Wre (releaseM t ls).1 t t := fun h => by
  obtain ⟨r, y, hy, _, e⟩ := h.waits
  exact release_gone (List.mem_of_getElem? hy) e
/-- a table stays where a block of another kind is turned -/
theorem TL.far {w0 w w' : World} {z g : Nat} {ls : List LK} {S : Nat → Prop} (h : TL w0 w z g ls) (hzs : z ≤ w0.heap.size) (hf : Fr w w' S) (hS : ∀ b, S b → z ≤ b ∧ b ≠ g) (h2 : ∀ b, S b → 2 ≤ b) (hd : ∀ v b, TB w g v ls → v.ownBlock = some b → ¬ S b) : TL w0 w' z g ls := by
  obtain ⟨⟨v, hT, hv⟩, hb, hz, hg⟩ := h
  exact ⟨⟨v, hT.keep hf (fun e => (hS _ e).2 rfl) (fun b e => hd v b hT e), hv⟩, hb.trans (hf.below (fun b e => (hS b e).1) (Nat.le_trans hzs hb.size)), hz, hg.keep hf h2⟩
/-- over what Waits tells, it is who waits, over others, for whom -/
theorem pr_wre {ls : List LK} (hI : Inv ls) {pl : List Nat} (hr : Rises ls pl) (a b : Nat) : PR (waitsM ls pl) a b ↔ Wre ls a b := by
  constructor
  · intro h
    induction h with
    | one h => exact .one (mem_wt hr h)
    | more _ h ih => exact ih.trans (.one (mem_wt hr h))
  · intro h
    induction h with
    | one h => exact .one (wt_mem hI hr h)
    | step h _ ih => exact PR.first (wt_mem hI hr h) ih
end Go.Proofs.YtlblgfpafdfilaaDoor
