/-
  A REGION THAT DRAWS ITS ORDER, WALKED FROM THE MIDDLE ON: what is left of it only reads; it is walked once, in a given order.
-/
import Derived.BigQuiet
import Derived.Deep.RegionWith
namespace Go.Proofs.Ytbjcojmapbiaaaa
open Go.RowKit

/-- the operations 'is' may come up one after another, and each is apart from all that may come up beside it -/
def follow (md : Region.Mode) (ops : Array Oper) : List Nat → Array Bool → Bool
  | [], listed => (Region.ready md ops listed).isEmpty
  | i :: is, listed => (Region.ready md ops listed).contains i && Region.free md ops listed i && follow md ops is (listed.setIfInBounds i true)
def pick (ops : Array Oper) (is : List Nat) : List Oper := is.filterMap (ops[·]?)
theorem any_list {P : Program} {md : Region.Mode} {ops : Array Oper} {C : World → Prop} {Q : Act → Prop} (hs : Region.noSelect ops = true) : ∀ (is : List Nat) (listed : Array Bool) (a : Act),
    follow md ops is listed = true → wpQuiet P ops C Q (pick ops is) a → wpAnyQ P md ops C Q is.length listed a
  | [], listed, a, hB, h => ⟨by simpa [follow, List.isEmpty_iff] using hB, h⟩
  | i :: is, listed, a, hB, h => by
    simp only [follow, Bool.and_eq_true] at hB
    obtain ⟨⟨hr, hf⟩, hB'⟩ := hB
    have hri : i ∈ Region.ready md ops listed := by simpa using hr
    obtain ⟨_, o, h0, _⟩ := mem_ready.1 hri
    have hp : pick ops (i :: is) = o :: pick ops is := by simp [pick, h0]
    rw [hp] at h
    have hst : qOp P ops C i (wpQuiet P ops C Q (pick ops is)) a := by unfold qOp; simp only [h0]; exact h
    obtain ⟨v, hy, hK⟩ := yieldsIn_of_qOp h0 hst
    exact wpAnyQ_first h0 (Region.noSelect_spec hs) is.length listed a (Region.free_spec h0 hf) hri hy (any_list hs is _ _ hB' hK)
/-- from here on the region only reads -/
theorem rest_quiet {P : Program} {md : Region.Mode} {l : List Oper} {Q : Exit → Act → World → Prop} (is : List Nat) (listed : Array Bool) (a : Act) (w : World) (r : List Oper) (n : Nat) (hn : n = is.length) (hp : pick l.toArray is = r) (hs : Region.noSelect l.toArray = true) (hB : follow md l.toArray is listed = true)
    (h : wpQuiet P l.toArray (fun w' => ∃ n, w' = w.drewN n) (fun a' => ∀ w', (∃ n, w' = w.drewN n) → Q .normal a' w') r a) : wpAny P md l.toArray Q n listed a w := by
  subst hn hp
  exact wpAny_of_quiet (C := fun w' => ∃ n, w' = w.drewN n) (Q := fun a' => ∀ w', (∃ n, w' = w.drewN n) → Q .normal a' w') (fun _ w' hw' h => h w' hw') _ _ _ _ ⟨0, rfl⟩ (any_list hs is listed a hB h)
def d0 : Oper := { dst := none, op := .move (.tmp 0), type := 0, pos := "", after := #[], guard := none }
/-- the operations of that order, written out -/
def pickD (d : Oper) (l : List Oper) (is : List Nat) : List Oper := is.map fun i => l.getD i d
theorem pick_eq (d : Oper) {md : Region.Mode} {l : List Oper} : ∀ (is : List Nat) (listed : Array Bool), follow md l.toArray is listed = true → pick l.toArray is = pickD d l is
  | [], _, _ => rfl
  | i :: is, listed, h => by
    simp only [follow, Bool.and_eq_true] at h
    obtain ⟨⟨hr, _⟩, h'⟩ := h
    have hri : i ∈ Region.ready md l.toArray listed := by simpa using hr
    obtain ⟨_, o, h0, _⟩ := mem_ready.1 hri
    have hp : pick l.toArray (i :: is) = o :: pick l.toArray is := by simp only [pick, List.filterMap_cons, h0]
    have h1 : l.getD i d = o := by
      have h2 : l[i]? = some o := by simpa using h0
      simp [List.getD, h2]
    rw [hp, pick_eq d is _ h']
    simp only [pickD, List.map_cons, h1]
theorem rest_quietD {P : Program} {md : Region.Mode} {l : List Oper} {Q : Exit → Act → World → Prop} (d : Oper) (is : List Nat) (listed : Array Bool) (a : Act) (w : World) (r : List Oper) (n : Nat) (hn : n = is.length) (hp : pickD d l is = r) (hs : Region.noSelect l.toArray = true) (hB : follow md l.toArray is listed = true)
    (h : wpQuiet P l.toArray (fun w' => ∃ n, w' = w.drewN n) (fun a' => ∀ w', (∃ n, w' = w.drewN n) → Q .normal a' w') r a) : wpAny P md l.toArray Q n listed a w :=
  rest_quiet is listed a w r n hn ((pick_eq d is listed hB).trans hp) hs hB h
end Go.Proofs.Ytbjcojmapbiaaaa
