/-
  ROWS OF BYTES THAT MAY BE WRITTEN OVER.
-/
import Derived.Test.YtdhgbkibbileiaaGreatPWords
namespace Go.Proofs.YtdhgbkibbileiaaGreat
open Go.RowKit

set_option maxRecDepth 100000 in
theorem mem_set {α : Type} {l : List α} {i : Nat} {x y : α} (h : y ∈ l.set i x) : y ∈ l ∨ y = x := by
  rcases List.mem_or_eq_of_mem_set h with h | h
  · exact Or.inl h
  · exact Or.inr h
def WB (w : World) (S : Nat → Prop) (A : Option Addr) (n : Nat) : Prop := ∃ l, RB w S A n l ∧ ∀ ad, A = some ad → ∀ j, j < n → w.frozen? (ad.add j) = false
section
variable {w w' : World} {S T : Nat → Prop} {A : Option Addr} {n : Nat}
set_option maxRecDepth 100000 in
theorem WB.of_ow {v : Value} {l : List Nat} (h : Ow w S v n l) : ∃ A c, v = .slice A n c ∧ WB w S A n := by
  obtain ⟨A, c, e, _, _, hr⟩ := h.reads
  refine ⟨A, c, e, l, hr, fun ad ea j _ => ?_⟩
  rcases h.1.2 with ⟨e2, _⟩ | ⟨g, cap, cur, e2, _, hb, _⟩
  · rw [e2] at e; injection e with e; rw [ea] at e; cases e
  · rw [e2] at e; injection e with e; rw [ea] at e; injection e with e; subst e
    rw [add_head]
    exact Blk.frozen (t := 5) (cs := cur) hb j
set_option maxRecDepth 100000 in
theorem add_inj (ad : Addr) {i j : Nat} (h : ad.add i = ad.add j) : i = j := by
  unfold Addr.add at h
  by_cases hi : i = 0 <;> by_cases hj : j = 0 <;> simp [hi, hj] at h
  · omega
  · cases ad; simp at h; omega
  · cases ad; simp at h; omega
  · exact h
set_option maxRecDepth 100000 in
theorem WB.at_ (h : WB w S A n) {i : Nat} (hi : i < n) : ∃ ad x, A = some ad ∧ x < 256 ∧ w.cell? (ad.add i) = some (.int .u8 (x : Nat)) ∧ w.frozen? (ad.add i) = false ∧ S ad.block ∧
    ∀ y, y < 256 → WB (w.setCell (ad.add i) (.int .u8 (y : Nat))) S A n := by
  obtain ⟨l, hr, hf⟩ := h
  obtain ⟨ad, e, hx, hc⟩ := hr.at_ hi
  obtain ⟨h1, h2, h3⟩ := hr
  obtain ⟨ad', e', hb, hS, hcs⟩ := h3 (by omega)
  rw [e] at e'
  cases e'
  refine ⟨ad, l.getD i 0, e, hx, hc, hf ad e i hi, hS, fun y hy => ⟨l.set i y, ⟨by simpa using h1, ?_, fun _ => ⟨ad, e, by simpa using hb, hS, fun j hj => ?_⟩⟩, fun ad2 e2 j hj => ?_⟩⟩
  · intro z hz
    rcases mem_set hz with hz | rfl
    · exact h2 z hz
    · exact hy
  · by_cases hij : i = j
    · subst hij
      rw [World.cell?_setCell_same _ _ _ hc]
      have : i < l.length := by omega
      simp [this]
    · rw [World.cell?_setCell_other _ _ _ _ (fun e => hij (add_inj ad e)), hcs j hj]
      simp [hij]
  · rw [World.frozen?_setCell]
    exact hf ad2 e2 j hj
set_option maxRecDepth 100000 in
theorem RB.set_ {ad : Addr} {l : List Nat} (hr : RB w S (some ad) n l) {i y : Nat} (hi : i < n) (hy : y < 256) : RB (w.setCell (ad.add i) (.int .u8 (y : Nat))) S (some ad) n (l.set i y) := by
  obtain ⟨_, e0, hx, hc⟩ := hr.at_ hi
  cases e0
  obtain ⟨h1, h2, h3⟩ := hr
  obtain ⟨ad', e', hb, hS, hcs⟩ := h3 (by omega)
  cases e'
  refine ⟨by simpa using h1, ?_, fun _ => ⟨ad, rfl, by simpa using hb, hS, fun j hj => ?_⟩⟩
  · intro z hz
    rcases mem_set hz with hz | rfl
    · exact h2 z hz
    · exact hy
  · by_cases hij : i = j
    · subst hij
      rw [World.cell?_setCell_same _ _ _ hc]
      have : i < l.length := by omega
      simp [this]
    · rw [World.cell?_setCell_other _ _ _ _ (fun e => hij (add_inj ad e)), hcs j hj]
      simp [hij]
set_option maxRecDepth 100000 in
theorem WB.keep (h : WB w S A n) (hf : Fr w w' T) (hd : ∀ b, S b → ¬ T b) : WB w' S A n := by
  obtain ⟨l, hr, hz⟩ := h
  refine ⟨l, hr.keep hf hd, fun ad e j hj => ?_⟩
  obtain ⟨h1, h2, h3⟩ := hr
  obtain ⟨ad', e', hb, hS, _⟩ := h3 (by omega)
  rw [e] at e'; cases e'
  have := hf.block ad.block hb (hd _ hS)
  have e2 : w'.frozen? (ad.add j) = w.frozen? (ad.add j) := by simp only [World.frozen?, block_of_add, this]
  rw [e2]
  exact hz ad e j hj
set_option maxRecDepth 100000 in
theorem WB.alloc (h : WB w S A n) (o : Obj) : WB (w.alloc o) S A n := h.keep (T := No) ((Fr.refl w No).alloc o) fun _ _ hn => hn

set_option maxRecDepth 100000 in
theorem WB.mono (h : WB w S A n) (hd : ∀ b, b < w.heap.size → S b → T b) : WB w T A n := by
  obtain ⟨l, hr, hf⟩ := h
  exact ⟨l, hr.mono hd, hf⟩
end
end Go.Proofs.YtdhgbkibbileiaaGreat
