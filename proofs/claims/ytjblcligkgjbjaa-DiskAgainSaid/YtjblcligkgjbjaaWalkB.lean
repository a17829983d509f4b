/-
  THE WALKS OF operate, Trip, Counts.
-/
import Derived.Test.YtjblcligkgjbjaaWalkA
namespace Go.Proofs.Ytjblcligkgjbjaa
open Go.RowKit Go.Sort Go.Maps

theorem has_any (w : World) (S : Nat → Prop) (g : Nat) (d : DS) (h : DAt w S g d) (at_ : Int) :
    Calls Try.prog 34 #[ptr (some g), .int .i64 at_] w fun e w' => e = .returned (.bool (decide (0 ≤ at_) && decide (at_ < d.kept.length))) ∧ w = w' :=
  has_of _ _ at_ w (sectors_any w S g d h)
theorem has0 (w : World) (S : Nat → Prop) (g : Nat) (d : DS) (h : DAt w S g d) :
    Calls Try.prog 34 #[ptr (some g), .int .i64 0] w fun e w' => e = .returned (.bool true) ∧ w = w' := by
  have := has_any w S g d h 0
  have hp := h.ok.pos
  rwa [show (decide ((0 : Int) ≤ 0) && decide ((0 : Int) < (d.kept.length : Int))) = true by simp; omega] at this
theorem has_nob (w : World) (p : Option Nat) (h : Nob w p) (at_ : Int) : Calls Try.prog 34 #[ptr p, .int .i64 at_] w fun e w' => e = .returned (.bool false) ∧ w = w' := by
  have := has_of p 0 at_ w (sectors_nob w p h)
  rwa [show (decide (0 ≤ at_) && decide (at_ < ((0 : Nat) : Int))) = false by simp] at this

section
variable {w w' : World} {S T : Nat → Prop} {g L M : Nat} {d d' : DS} {v : Value} {c c' : Int}
theorem DB.turn (h : DB w S g d L M v c) (hk : d'.kept = d.kept) (hc : d'.cache = d.cache) (ok : d'.Ok) (hb : Blk w' g 65 (dcs d' L M v c')) (ht : d'.dark = false → c' = d'.trip)
    (hh : ∀ x, x ≠ g → w'.heap[x]? = w.heap[x]?) : DB w' S g d' L M v c' := by
  refine ⟨h.sg, h.sl, h.sm, ok, hb, ?_, ?_, ?_, ht⟩
  · rw [hk]; exact (hh L (h.l.ne_ h.b (by decide))).trans h.l
  · rw [hc]; exact h.r.stays fun x hx => hh x fun e => h.r.own_ne h.b (by decide) (e ▸ hx)
  · rw [hc]; exact h.m.stays (hh M fun e => h.m.ne_blk h.b e.symm)
/-- two cells are set -/
theorem DB.two (h : DB w S g d L M v c) (i j : Nat) (u y : Value) (hk : d'.kept = d.kept) (hc : d'.cache = d.cache) (ok : d'.Ok) (hb : ((dcs d L M v c).setIfInBounds i u).setIfInBounds j y = dcs d' L M v c')
    (ht : d'.dark = false → c' = d'.trip) : DB ((w.setCell ⟨g, i, none⟩ u).setCell ⟨g, j, none⟩ y) S g d' L M v c' ∧ Fr w ((w.setCell ⟨g, i, none⟩ u).setCell ⟨g, j, none⟩ y) S := by
  refine ⟨h.turn hk hc ok ?_ ht ?_, ((Fr.refl _ _).setCell (Or.inl h.sg) _).setCell (Or.inl h.sg) _⟩
  · rw [← hb]; exact (h.b.set_ i u).set_ j y
  · intro x hx
    exact (Below.heap_setCell _ _ _ x hx).trans (Below.heap_setCell _ _ _ x hx)
end

def errD (b : Bool) : Int := if b then 0 else 8
theorem operate_any (w : World) (S : Nat → Prop) (g : Nat) (d : DS) (h : DAt w S g d) :
    Calls Try.prog 35 #[ptr (some g)] w fun e w' => e = .returned (.int .i64 (errD d.may)) ∧ DAt w' S g d.next ∧ Fr w w' S := by
  have HC := Lib.hid (has0 w S g d h)
  obtain ⟨L, M, v, c, h⟩ := h
  have hc3 := h.b.cell 3
  have hc4 := h.b.cell 4
  have hf3 := h.b.frozen 3
  have hf4 := h.b.frozen 4
  simp only [dcs, List.getElem?_toArray, List.getElem?_cons_zero, List.getElem?_cons_succ] at hc3 hc4
  cases hd : d.dark with
  | true =>
    rw [hd] at hc4
    have e1 : d.may = false := by simp [DS.may, hd]
    have e2 : d.next = d := by simp [DS.next, hd]
    rw [e1, e2]
    have HD := Lib.hid h
    clear h e1 e2 hd
    simp only [ptr, Option.map, errD, Bool.false_eq_true, if_false] at HC ⊢
    go_enter Try.func35, Try.ntmps35
    go_wp2_with (go_at_call 34; refine HC.out.mono ?_; rintro e w' ⟨rfl, rfl⟩)
    go_ret
    exact ⟨rfl, ⟨L, M, v, c, HD.out⟩, Fr.refl _ _⟩
  | false =>
    rw [hd] at hc4
    have hct := h.t hd
    have t1 := h.ok.tr1
    have t2 := h.ok.tr2
    subst hct
    by_cases h0 : d.trip = 0
    · have e1 : d.may = false := by simp [DS.may, hd, h0]
      have e2 : d.next = { d with dark := true, trip := -1 } := by simp [DS.next, hd, h0]
      have ok1 := h.ok.next
      rw [e1, e2]
      rw [e2] at ok1
      have HX := Lib.hid (h.two (d' := { d with dark := true, trip := -1 }) (c' := -1) 4 3 (.bool true) (.int .i64 (-1)) rfl rfl ok1 (by simp [dcs]) (fun e => by cases e))
      have h00 : (d.trip == 0) = true := by simpa using h0
      clear h e1 e2 hd ok1 h0 t1 t2
      simp only [ptr, Option.map, errD, Bool.false_eq_true, if_false] at HC ⊢
      generalize d.trip = tr at *
      go_enter Try.func35, Try.ntmps35
      go_wp2_with (go_at_call 34; refine HC.out.mono ?_; rintro e w' ⟨rfl, rfl⟩)
      go_ret
      exact ⟨rfl, ⟨L, M, v, _, HX.out.1⟩, HX.out.2⟩
    · have e1 : d.may = true := by simp [DS.may, hd, h0]
      by_cases hp : 0 < d.trip
      · have e2 : d.next = { d with trip := d.trip - 1 } := by simp [DS.next, hd, h0, hp]
        have ok1 := h.ok.next
        rw [e1, e2]
        rw [e2] at ok1
        have HX := Lib.hid (h.field (d' := { d with trip := d.trip - 1 }) (c' := d.trip - 1) 3 (.int .i64 (d.trip - 1)) rfl rfl ok1 (by simp [dcs]) (fun e => rfl))
        have h00 : (d.trip == 0) = false := by simpa using h0
        have hp1 : d.trip > 0 := hp
        have hw : IntKind.i64.wrap (d.trip - 1) = d.trip - 1 := IntWalk.i64_in _ (by omega)
        clear h e1 e2 hd ok1 h0
        simp only [ptr, Option.map, errD, if_true] at HC ⊢
        generalize d.trip = tr at *
        go_enter Try.func35, Try.ntmps35
        go_wp2_with (go_at_call 34; refine HC.out.mono ?_; rintro e w' ⟨rfl, rfl⟩)
        go_ret
        exact ⟨rfl, ⟨L, M, v, _, HX.out.1⟩, HX.out.2⟩
      · have e2 : d.next = d := by simp [DS.next, hd, h0, hp]
        rw [e1, e2]
        have HD := Lib.hid h
        have h00 : (d.trip == 0) = false := by simpa using h0
        have hp1 : decide (d.trip > 0) = false := by simpa using hp
        clear h e1 e2 hd h0
        simp only [ptr, Option.map, errD, if_true] at HC ⊢
        generalize d.trip = tr at *
        go_enter Try.func35, Try.ntmps35
        go_wp2_with (go_at_call 34; refine HC.out.mono ?_; rintro e w' ⟨rfl, rfl⟩)
        go_ret
        exact ⟨rfl, ⟨L, M, v, _, HD.out⟩, Fr.refl _ _⟩
theorem operate_nob (w : World) (p : Option Nat) (h : Nob w p) : Calls Try.prog 35 #[ptr p] w fun e w' => e = .returned (.int .i64 8) ∧ w = w' := by
  have HC := Lib.hid (has_nob w p h 0)
  clear h
  go_enter Try.func35, Try.ntmps35
  go_wp2_with (go_at_call 34; refine HC.out.mono ?_; rintro e w' ⟨rfl, rfl⟩)
  go_ret
  exact ⟨rfl, rfl⟩
/-- a trip is laid -/
theorem trip_any (w : World) (S : Nat → Prop) (g : Nat) (d : DS) (h : DAt w S g d) (n : Int) (hn : n ≤ 9223372036854775807) :
    Calls Try.prog 27 #[ptr (some g), .int .i64 n] w fun e w' => e = .returned (.tuple #[]) ∧ DAt w' S g (d.arm n) ∧ Fr w w' S := by
  have HC := Lib.hid (has0 w S g d h)
  obtain ⟨L, M, v, c, h⟩ := h
  have hc3 := h.b.cell 3
  have hf3 := h.b.frozen 3
  simp only [dcs, List.getElem?_toArray, List.getElem?_cons_zero, List.getElem?_cons_succ] at hc3
  obtain ⟨m, hm⟩ : ∃ m, m = max n (-1) := ⟨_, rfl⟩
  have HX : DB (w.setCell ⟨g, 3, none⟩ (.int .i64 m)) S g (d.arm n) L M v m ∧ Fr w (w.setCell ⟨g, 3, none⟩ (.int .i64 m)) S := by
    have e1 : (d.arm n).kept = d.kept := by unfold DS.arm; split <;> rfl
    have e2 : (d.arm n).cache = d.cache := by unfold DS.arm; split <;> rfl
    have e3 : (d.arm n).dark = d.dark := by unfold DS.arm; split <;> rfl
    have e4 : (d.arm n).rd = d.rd ∧ (d.arm n).wr = d.wr ∧ (d.arm n).sy = d.sy := by unfold DS.arm; split <;> exact ⟨rfl, rfl, rfl⟩
    refine h.field 3 _ e1 e2 (h.ok.arm hn) ?_ ?_
    · simp [dcs, e1, e3, e4]
    · intro e
      rw [e3] at e
      rw [hm]
      simp [DS.arm, e]
  have HX := Lib.hid HX
  clear h
  have hmm : max n (-1) = m := hm.symm
  clear hm
  simp only [ptr, Option.map] at HC ⊢
  go_enter Try.func27, Try.ntmps27
  go_wp2_with fail
  refine HC.out.mono ?_
  rintro e w' ⟨rfl, rfl⟩
  go_wp2
  · obtain rfl : m = -1 := by omega
    refine bodyPost_end (results_none rfl _ _ _) rfl ?_
    exact ⟨rfl, ⟨L, M, v, _, HX.out.1⟩, HX.out.2⟩
  · obtain rfl : m = n := by omega
    refine bodyPost_end (results_none rfl _ _ _) rfl ?_
    exact ⟨rfl, ⟨L, M, v, _, HX.out.1⟩, HX.out.2⟩
theorem trip_nob (w : World) (p : Option Nat) (h : Nob w p) (n : Int) : Calls Try.prog 27 #[ptr p, .int .i64 n] w fun e w' => e = .returned (.tuple #[]) ∧ w = w' := by
  have HC := Lib.hid (has_nob w p h 0)
  clear h
  go_enter Try.func27, Try.ntmps27
  go_wp2_with (go_at_call 34; refine HC.out.mono ?_; rintro e w' ⟨rfl, rfl⟩)
  refine bodyPost_end (results_none rfl _ _ _) rfl ?_
  exact ⟨rfl, rfl⟩
end Go.Proofs.Ytjblcligkgjbjaa
