/-
STAGE 8: walk, where the root is a leaf, or no page is told.
-/
import Derived.Test.YtcajidlekfkjlaaNL
import Derived.Laws.EntriesVeiled
namespace Go.Proofs.Ytcajidlekfkjlaa
open Go.RowKit

set_option maxRecDepth 100000 in
theorem mapW_own (w : World) (o : Obj) : ((w.alloc (.map #[] 0)).alloc o).ownsMap Try.prog 23 (H := Unit) unitElem w.heap.size 0 (.map []) :=
  ownsMap_fr (World.ownsMap_made w Try.prog 23 unitElem) ((Fr.refl _ No).alloc o) (fun h => h)
set_option maxRecDepth 100000 in
theorem mapW_below (w : World) (o : Obj) : Below w.heap.size w ((w.alloc (.map #[] 0)).alloc o) := ((Below.refl _ _).alloc (Nat.le_refl _) _).alloc (by simp) _
set_option maxRecDepth 100000 in
theorem walkZero (G : Option TV) (come : Value) (w : World) : Calls Try.prog 39 #[gV G, .int .u32 0, come] w fun e w' => e = Flt 1 ∧ Below w.heap.size w w' := by
  obtain ⟨g, hg⟩ : ∃ g, g = gV G := ⟨_, rfl⟩
  rw [← hg]
  clear hg
  have HM := Lib.hid (fun W => must_no 1 W)
  unfold Flt at HM ⊢
  go_enter Try.func39, Try.ntmps39
  go_wp2_with fail
  refine (HM.out _).mono ?_
  rintro e w1 ⟨rfl, rfl⟩
  go_wp2_with fail
  exact ⟨rfl, rfl, Below.refl _ _⟩
set_option maxHeartbeats 2000000 in
set_option maxRecDepth 100000 in
theorem walkLeaf46 (G : Option TV) (n : Nat) (h0 : n ≠ 0) (hn : n < 4294967296) (p : PV) (a : Nat) (w : World) (S : Nat → Prop) (h : GIn w S G) (hp : askM G n = .ok p) (hk : p.k = 2) (R : World → Prop)
    (HC : ∀ W, Below w.heap.size w W → Calls Try.prog 40 #[stopV n p 1 (.slice none 0 0) (.slice none 0 0), .pointer (some ⟨a, 0, none⟩)] W fun e w' => e = .returned (.tuple #[]) ∧ R w' ∧ Fr W w' (fun b => b < w.heap.size)) :
    Calls Try.prog 39 #[gV G, .int .u32 (n : Int), .func (.func 40) #[] #[.pointer (some ⟨a, 0, none⟩)]] w fun e w' => e = .returned (.tuple #[]) ∧ R w' := by
  obtain ⟨g, hg⟩ : ∃ g, g = gV G := ⟨_, rfl⟩
  have hgc := gV_cases G
  have d1 : ((n : Int) != 0) = true := bne_iff_ne.2 (by omega)
  have hd := fun o => downLeaf46 G n hn p a w.heap.size ((w.alloc (.map #[] 0)).alloc o) (fun b => S b ∧ b < w.heap.size) ((h.mono (fun b hb hs => ⟨hs, hb⟩)).below (mapW_below w o)) (fun hs => absurd hs.2 (Nat.lt_irrefl _)) hp hk (mapW_own w o) R
    (fun W hW => (HC W ((mapW_below w o).trans (hW.below (fun b hb => by omega) (by have := (mapW_below w o).size; omega)))).mono fun e w' ⟨a1, a2, a3⟩ => ⟨a1, a2, a3.mono fun b _ hb => Nat.lt_of_lt_of_le hb (mapW_below w o).size⟩)
  rw [← hg] at hgc hd ⊢
  unfold walkerV at hd
  have HD := Lib.hid hd
  have HY1 := Lib.hid (fun W => must_yes 1 W)
  have hmm := @run_makeMap Try.prog
  clear hg h hp hk HC h0 hn hd
  rcases hgc with rfl | ⟨tv, rfl⟩
  · go_enter Try.func39, Try.ntmps39
    go_wp2_with fail
    refine (HY1.out _).mono ?_
    rintro e w1 ⟨rfl, rfl⟩
    go_wp2_with fail
    refine (HD.out _).mono ?_
    rintro e w1 ⟨rfl, hr⟩
    have HR := Lib.hid hr
    clear hr
    go_wp2_with fail
    go_end0
    exact ⟨rfl, HR.out⟩
  · go_enter Try.func39, Try.ntmps39
    go_wp2_with fail
    refine (HY1.out _).mono ?_
    rintro e w1 ⟨rfl, rfl⟩
    go_wp2_with fail
    refine (HD.out _).mono ?_
    rintro e w1 ⟨rfl, hr⟩
    have HR := Lib.hid hr
    clear hr
    go_wp2_with fail
    go_end0
    exact ⟨rfl, HR.out⟩
set_option maxHeartbeats 2000000 in
set_option maxRecDepth 100000 in
theorem walkLeaf96 (G : Option TV) (n : Nat) (h0 : n ≠ 0) (hn : n < 4294967296) (p : PV) (a : Nat) (w : World) (S : Nat → Prop) (h : GIn w S G) (hp : askM G n = .ok p) (hk : p.k = 2) (R : World → Prop)
    (HC : ∀ W, Below w.heap.size w W → Calls Try.prog 56 #[stopV n p 1 (.slice none 0 0) (.slice none 0 0), .pointer (some ⟨a, 0, none⟩)] W fun e w' => e = .returned (.tuple #[]) ∧ R w' ∧ Fr W w' (fun b => b < w.heap.size)) :
    Calls Try.prog 39 #[gV G, .int .u32 (n : Int), .func (.func 56) #[] #[.pointer (some ⟨a, 0, none⟩)]] w fun e w' => e = .returned (.tuple #[]) ∧ R w' := by
  obtain ⟨g, hg⟩ : ∃ g, g = gV G := ⟨_, rfl⟩
  have hgc := gV_cases G
  have d1 : ((n : Int) != 0) = true := bne_iff_ne.2 (by omega)
  have hd := fun o => downLeaf96 G n hn p a w.heap.size ((w.alloc (.map #[] 0)).alloc o) (fun b => S b ∧ b < w.heap.size) ((h.mono (fun b hb hs => ⟨hs, hb⟩)).below (mapW_below w o)) (fun hs => absurd hs.2 (Nat.lt_irrefl _)) hp hk (mapW_own w o) R
    (fun W hW => (HC W ((mapW_below w o).trans (hW.below (fun b hb => by omega) (by have := (mapW_below w o).size; omega)))).mono fun e w' ⟨a1, a2, a3⟩ => ⟨a1, a2, a3.mono fun b _ hb => Nat.lt_of_lt_of_le hb (mapW_below w o).size⟩)
  rw [← hg] at hgc hd ⊢
  unfold walkerV at hd
  have HD := Lib.hid hd
  have HY1 := Lib.hid (fun W => must_yes 1 W)
  have hmm := @run_makeMap Try.prog
  clear hg h hp hk HC h0 hn hd
  rcases hgc with rfl | ⟨tv, rfl⟩
  · go_enter Try.func39, Try.ntmps39
    go_wp2_with fail
    refine (HY1.out _).mono ?_
    rintro e w1 ⟨rfl, rfl⟩
    go_wp2_with fail
    refine (HD.out _).mono ?_
    rintro e w1 ⟨rfl, hr⟩
    have HR := Lib.hid hr
    clear hr
    go_wp2_with fail
    go_end0
    exact ⟨rfl, HR.out⟩
  · go_enter Try.func39, Try.ntmps39
    go_wp2_with fail
    refine (HY1.out _).mono ?_
    rintro e w1 ⟨rfl, rfl⟩
    go_wp2_with fail
    refine (HD.out _).mono ?_
    rintro e w1 ⟨rfl, hr⟩
    have HR := Lib.hid hr
    clear hr
    go_wp2_with fail
    go_end0
    exact ⟨rfl, HR.out⟩
set_option maxHeartbeats 2000000 in
set_option maxRecDepth 100000 in
theorem walkErr46 (G : Option TV) (n : Nat) (h0 : n ≠ 0) (hn : n < 4294967296) (c : Int) (a : Nat) (w : World) (S : Nat → Prop) (h : GIn w S G) (hp : askM G n = .error c) :
    Calls Try.prog 39 #[gV G, .int .u32 (n : Int), .func (.func 40) #[] #[.pointer (some ⟨a, 0, none⟩)]] w fun e w' => e = Flt c ∧ Below w.heap.size w w' := by
  obtain ⟨g, hg⟩ : ∃ g, g = gV G := ⟨_, rfl⟩
  have hgc := gV_cases G
  have d1 : ((n : Int) != 0) = true := bne_iff_ne.2 (by omega)
  have hd := fun o => (downErr46 G n hn c a w.heap.size ((w.alloc (.map #[] 0)).alloc o) (fun b => S b ∧ b < w.heap.size) ((h.mono (fun b hb hs => ⟨hs, hb⟩)).below (mapW_below w o)) (fun hs => absurd hs.2 (Nat.lt_irrefl _)) hp (mapW_own w o)).mono (R' := fun e w' => e = Flt c ∧ Below w.heap.size w w')
    fun e w' ⟨he, hf⟩ => ⟨he, (mapW_below w o).trans (hf.below (fun b hb => by omega) (by have := (mapW_below w o).size; omega))⟩
  rw [← hg] at hgc hd ⊢
  unfold walkerV Flt at hd
  unfold Flt
  have HD := Lib.hid hd
  have HY1 := Lib.hid (fun W => must_yes 1 W)
  have hmm := @run_makeMap Try.prog
  clear hg h hp h0 hn hd
  rcases hgc with rfl | ⟨tv, rfl⟩
  · go_enter Try.func39, Try.ntmps39
    go_wp2_with fail
    refine (HY1.out _).mono ?_
    rintro e w1 ⟨rfl, rfl⟩
    go_wp2_with fail
    refine (HD.out _).mono ?_
    rintro e w1 ⟨rfl, hb⟩
    have HB := Lib.hid hb
    clear hb
    go_wp2_with fail
    exact ⟨rfl, rfl, HB.out⟩
  · go_enter Try.func39, Try.ntmps39
    go_wp2_with fail
    refine (HY1.out _).mono ?_
    rintro e w1 ⟨rfl, rfl⟩
    go_wp2_with fail
    refine (HD.out _).mono ?_
    rintro e w1 ⟨rfl, hb⟩
    have HB := Lib.hid hb
    clear hb
    go_wp2_with fail
    exact ⟨rfl, rfl, HB.out⟩
set_option maxHeartbeats 2000000 in
set_option maxRecDepth 100000 in
theorem walkErr96 (G : Option TV) (n : Nat) (h0 : n ≠ 0) (hn : n < 4294967296) (c : Int) (a : Nat) (w : World) (S : Nat → Prop) (h : GIn w S G) (hp : askM G n = .error c) :
    Calls Try.prog 39 #[gV G, .int .u32 (n : Int), .func (.func 56) #[] #[.pointer (some ⟨a, 0, none⟩)]] w fun e w' => e = Flt c ∧ Below w.heap.size w w' := by
  obtain ⟨g, hg⟩ : ∃ g, g = gV G := ⟨_, rfl⟩
  have hgc := gV_cases G
  have d1 : ((n : Int) != 0) = true := bne_iff_ne.2 (by omega)
  have hd := fun o => (downErr96 G n hn c a w.heap.size ((w.alloc (.map #[] 0)).alloc o) (fun b => S b ∧ b < w.heap.size) ((h.mono (fun b hb hs => ⟨hs, hb⟩)).below (mapW_below w o)) (fun hs => absurd hs.2 (Nat.lt_irrefl _)) hp (mapW_own w o)).mono (R' := fun e w' => e = Flt c ∧ Below w.heap.size w w')
    fun e w' ⟨he, hf⟩ => ⟨he, (mapW_below w o).trans (hf.below (fun b hb => by omega) (by have := (mapW_below w o).size; omega))⟩
  rw [← hg] at hgc hd ⊢
  unfold walkerV Flt at hd
  unfold Flt
  have HD := Lib.hid hd
  have HY1 := Lib.hid (fun W => must_yes 1 W)
  have hmm := @run_makeMap Try.prog
  clear hg h hp h0 hn hd
  rcases hgc with rfl | ⟨tv, rfl⟩
  · go_enter Try.func39, Try.ntmps39
    go_wp2_with fail
    refine (HY1.out _).mono ?_
    rintro e w1 ⟨rfl, rfl⟩
    go_wp2_with fail
    refine (HD.out _).mono ?_
    rintro e w1 ⟨rfl, hb⟩
    have HB := Lib.hid hb
    clear hb
    go_wp2_with fail
    exact ⟨rfl, rfl, HB.out⟩
  · go_enter Try.func39, Try.ntmps39
    go_wp2_with fail
    refine (HY1.out _).mono ?_
    rintro e w1 ⟨rfl, rfl⟩
    go_wp2_with fail
    refine (HD.out _).mono ?_
    rintro e w1 ⟨rfl, hb⟩
    have HB := Lib.hid hb
    clear hb
    go_wp2_with fail
    exact ⟨rfl, rfl, HB.out⟩
end Go.Proofs.Ytcajidlekfkjlaa
