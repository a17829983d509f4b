/-
  THE DOCUMENT'S DISK IN MEMORY; THE WALKS OF comes, Arm.
-/
import Derived.Test.YtjblcligkgjbjaaWalkR
namespace Go.Proofs.Ytjblcligkgjbjaa
open Go.RowKit Go.Sort Go.Maps

/-- the cache's cells: a number and a slice each -/
def cels (c : List (Nat × List Nat)) (ss : List Value) : List Value := (c.zip ss).flatMap fun p => [.int .i64 (p.1.1 : Int), p.2]
/-- v is a row of the document's own, its block one of O, that reads as the cache c; its bytes lie in T -/
def CW (w : World) (O T : Nat → Prop) (v : Value) (c : List (Nat × List Nat)) : Prop :=
  ∃ ss : List Value, ss.length = c.length ∧ w.ownsRow 0 76 2 v c.length (cels c ss) ∧ (∀ b, v.ownBlock = some b → O b) ∧ ∀ (i a : Nat) (l : List Nat), c[i]? = some (a, l) → ∃ x, ss[i]? = some x ∧ SL w T x l
section
variable {w w' : World} {O T S U : Nat → Prop} {v : Value} {c : List (Nat × List Nat)}
set_option maxRecDepth 100000 in
theorem CW.nil_ (w : World) (O T : Nat → Prop) : CW w O T (.slice none 0 0) [] :=
  ⟨[], rfl, World.ownsRow_nil w 0 76 2, fun k hk => by simp [Value.ownBlock] at hk, fun i a l h => by simp at h⟩
set_option maxRecDepth 100000 in
theorem CW.stays (h : CW w O T v c) (hk : ∀ g, v.ownBlock = some g → w'.heap[g]? = w.heap[g]?) (hT : ∀ x l, SL w T x l → SL w' T x l) : CW w' O T v c := by
  obtain ⟨ss, h0, ⟨h1, h2⟩, h4, h5⟩ := h
  refine ⟨ss, h0, ⟨h1, ?_⟩, h4, fun i a l hi => ?_⟩
  · rcases h2 with h2 | ⟨g, cap, cur, hv, hg, hh, r⟩
    · exact Or.inl h2
    · exact Or.inr ⟨g, cap, cur, hv, hg, (hk g (by rw [hv]; rfl)).trans hh, r⟩
  · obtain ⟨x, e, hs⟩ := h5 i a l hi
    exact ⟨x, e, hT x l hs⟩
set_option maxRecDepth 100000 in
theorem CW.mono (h : CW w O T v c) (hO : ∀ b, b < w.heap.size → O b → S b) (hT : ∀ b, b < w.heap.size → T b → U b) : CW w S U v c := by
  obtain ⟨ss, h0, h1, h4, h5⟩ := h
  refine ⟨ss, h0, h1, fun b hb => hO b (h1.lt b hb).2 (h4 b hb), fun i a l hi => ?_⟩
  obtain ⟨x, e, hs⟩ := h5 i a l hi
  exact ⟨x, e, hs.mono hT⟩
set_option maxRecDepth 100000 in
theorem CW.own_ne {g : Nat} {t : TypeId} {cs : Array Value} (h : CW w O T v c) (hg : Blk w g t cs) (ht : (76 : TypeId) ≠ t) : v.ownBlock ≠ some g := by
  obtain ⟨ss, _, h1, _⟩ := h
  exact fun e => hg.own_ne h1 ht e.symm
set_option maxRecDepth 100000 in
theorem CW.lt (h : CW w O T v c) {g : Nat} (hg : v.ownBlock = some g) : g < w.heap.size := by
  obtain ⟨ss, _, h1, _⟩ := h
  exact (h1.lt g hg).2
set_option maxRecDepth 100000 in
theorem CW.o (h : CW w O T v c) {g : Nat} (hg : v.ownBlock = some g) : O g := by
  obtain ⟨ss, _, _, h1, _⟩ := h
  exact h1 g hg
set_option maxRecDepth 100000 in
theorem Row.lt {L : List (List Nat)} (h : Row w O T v L) {g : Nat} (hg : v.ownBlock = some g) : g < w.heap.size := by
  obtain ⟨xs, h1, _⟩ := h
  exact (h1.lt g hg).2
set_option maxRecDepth 100000 in
theorem Row.o {L : List (List Nat)} (h : Row w O T v L) {g : Nat} (hg : v.ownBlock = some g) : O g := by
  obtain ⟨xs, _, h1, _⟩ := h
  exact h1 g hg
end
/-- the document's disk's own cells -/
def rcs (d : DS) (vk vc : Value) : Array Value := #[vk, vc, .int .i64 d.trip, .bool d.dark, .int .i64 d.rd, .int .i64 d.wr, .int .i64 d.sy]
/-- the document's disk: its blocks in S, the bytes that it shares with others in T -/
structure RD (w : World) (S T : Nat → Prop) (g : Nat) (d : DS) (vk vc : Value) : Prop where
  sg : S g
  ok : d.Ok
  b : Blk w g 42 (rcs d vk vc)
  k : Row w S T vk d.kept
  c : CW w S T vc d.cache
  st : ∀ x, T x → ¬ S x
  tl : ∀ x, T x → x < w.heap.size
  sl : ∀ x, S x → x < w.heap.size
def RAt (w : World) (S T : Nat → Prop) (g : Nat) (d : DS) : Prop := ∃ vk vc, RD w S T g d vk vc
section
variable {w w' : World} {S T U : Nat → Prop} {g : Nat} {d d' : DS} {vk vc : Value}
set_option maxRecDepth 100000 in
theorem RD.keep (h : RD w S T g d vk vc) (hf : Fr w w' U) (hS : ∀ b, S b → ¬ U b) (hT : ∀ b, T b → ¬ U b) : RD w' S T g d vk vc :=
  ⟨h.sg, h.ok, h.b.keep hf (hS _ h.sg), h.k.stays (fun x hx => hf.block x (h.k.lt hx) (hS _ (h.k.o hx))) fun _ _ hs => hs.keep hf hT,
    h.c.stays (fun x hx => hf.block x (h.c.lt hx) (hS _ (h.c.o hx))) fun _ _ hs => hs.keep hf hT, h.st, fun x hx => Nat.lt_of_lt_of_le (h.tl x hx) hf.size, fun x hx => Nat.lt_of_lt_of_le (h.sl x hx) hf.size⟩
set_option maxRecDepth 100000 in
theorem RAt.keep (h : RAt w S T g d) (hf : Fr w w' U) (hS : ∀ b, S b → ¬ U b) (hT : ∀ b, T b → ¬ U b) : RAt w' S T g d := by
  obtain ⟨vk, vc, h⟩ := h
  exact ⟨vk, vc, h.keep hf hS hT⟩
set_option maxRecDepth 100000 in
theorem RAt.drewN (h : RAt w S T g d) (n : Nat) : RAt (w.drewN n) S T g d := h.keep (U := No) ((Fr.refl w No).drewN n) (fun _ _ hn => hn) fun _ _ hn => hn
set_option maxRecDepth 100000 in
theorem RAt.drew (h : RAt w S T g d) : RAt w.drew S T g d := h.keep (U := No) (Fr.refl w No).drew (fun _ _ hn => hn) fun _ _ hn => hn
set_option maxRecDepth 100000 in
theorem RAt.ok (h : RAt w S T g d) : d.Ok := by obtain ⟨_, _, h⟩ := h; exact h.ok
set_option maxRecDepth 100000 in
theorem RAt.lt (h : RAt w S T g d) : g < w.heap.size := by obtain ⟨_, _, h⟩ := h; exact h.b.lt
set_option maxRecDepth 100000 in
/-- more bytes are let in -/
theorem RAt.more (h : RAt w S T g d) (hU : ∀ x, T x → U x) (hn : ∀ x, U x → ¬ S x) (hl : ∀ x, U x → x < w.heap.size) : RAt w S U g d := by
  obtain ⟨vk, vc, h⟩ := h
  exact ⟨vk, vc, h.sg, h.ok, h.b, h.k.mono (fun _ _ h => h) (fun x _ hx => hU x hx), h.c.mono (fun _ _ h => h) (fun x _ hx => hU x hx), hn, hl, h.sl⟩
set_option maxRecDepth 100000 in
/-- only the disk's own cells have changed -/
theorem RD.turn (h : RD w S T g d vk vc) (hk : d'.kept = d.kept) (hc : d'.cache = d.cache) (ok : d'.Ok) (hb : Blk w' g 42 (rcs d' vk vc)) (hh : ∀ x, x ≠ g → w'.heap[x]? = w.heap[x]?) (hs : w.heap.size ≤ w'.heap.size) : RD w' S T g d' vk vc := by
  have hT : ∀ x l, SL w T x l → SL w' T x l := by
    intro x l ⟨A, c, e, hr⟩
    exact ⟨A, c, e, hr.move hs fun p _ hp => World.cell?_of_block (hh _ fun e => h.st _ hp (e ▸ h.sg))⟩
  refine ⟨h.sg, ok, hb, ?_, ?_, h.st, fun x hx => Nat.lt_of_lt_of_le (h.tl x hx) hs, fun x hx => Nat.lt_of_lt_of_le (h.sl x hx) hs⟩
  · rw [hk]; exact h.k.stays (fun x hx => hh x fun e => h.k.own_ne h.b (by decide) (e ▸ hx)) hT
  · rw [hc]; exact h.c.stays (fun x hx => hh x fun e => h.c.own_ne h.b (by decide) (e ▸ hx)) hT
set_option maxRecDepth 100000 in
theorem RD.field (h : RD w S T g d vk vc) (i : Nat) (u : Value) (hk : d'.kept = d.kept) (hc : d'.cache = d.cache) (ok : d'.Ok) (hb : (rcs d vk vc).setIfInBounds i u = rcs d' vk vc) :
    RD (w.setCell ⟨g, i, none⟩ u) S T g d' vk vc ∧ Fr w (w.setCell ⟨g, i, none⟩ u) S :=
  ⟨h.turn hk hc ok (by rw [← hb]; exact h.b.set_ i u) (fun x hx => Below.heap_setCell w _ u x hx) (by simp), (Fr.refl _ _).setCell (Or.inl h.sg) _⟩
set_option maxRecDepth 100000 in
theorem RD.two (h : RD w S T g d vk vc) (i j : Nat) (u y : Value) (hk : d'.kept = d.kept) (hc : d'.cache = d.cache) (ok : d'.Ok) (hb : ((rcs d vk vc).setIfInBounds i u).setIfInBounds j y = rcs d' vk vc) :
    RD ((w.setCell ⟨g, i, none⟩ u).setCell ⟨g, j, none⟩ y) S T g d' vk vc ∧ Fr w ((w.setCell ⟨g, i, none⟩ u).setCell ⟨g, j, none⟩ y) S :=
  ⟨h.turn hk hc ok (by rw [← hb]; exact (h.b.set_ i u).set_ j y) (fun x hx => (Below.heap_setCell _ _ _ x hx).trans (Below.heap_setCell _ _ _ x hx)) (by simp), ((Fr.refl _ _).setCell (Or.inl h.sg) _).setCell (Or.inl h.sg) _⟩
end
set_option maxRecDepth 100000 in
/-- does an operation come to be done? -/
theorem rcomes_any (w : World) (S T : Nat → Prop) (g : Nat) (d : DS) (h : RAt w S T g d) :
    Calls Try.prog 37 #[ptr (some g)] w fun e w' => e = .returned (.bool d.may) ∧ RAt w' S T g d.next ∧ Fr w w' S := by
  obtain ⟨vk, vc, h⟩ := h
  have hc2 := h.b.cell 2
  have hc3 := h.b.cell 3
  have hf2 := h.b.frozen 2
  have hf3 := h.b.frozen 3
  simp only [rcs, List.getElem?_toArray, List.getElem?_cons_zero, List.getElem?_cons_succ] at hc2 hc3
  have t1 := h.ok.tr1
  have t2 := h.ok.tr2
  simp only [ptr, Option.map]
  cases hd : d.dark with
  | true =>
    rw [hd] at hc3
    have e1 : d.may = false := by simp [DS.may, hd]
    have e2 : d.next = d := by simp [DS.next, hd]
    rw [e1, e2]
    have HD := Lib.hid h
    clear h e1 e2 hd t1 t2
    go_enter Try.func37, Try.ntmps37
    go_wp2_with fail
    go_ret
    exact ⟨rfl, ⟨vk, vc, HD.out⟩, Fr.refl _ _⟩
  | false =>
    rw [hd] at hc3
    by_cases h0 : d.trip = 0
    · have e1 : d.may = false := by simp [DS.may, hd, h0]
      have e2 : d.next = { d with dark := true, trip := -1 } := by simp [DS.next, hd, h0]
      have ok1 := h.ok.next
      rw [e1, e2]
      rw [e2] at ok1
      have HX := Lib.hid (h.two (d' := { d with dark := true, trip := -1 }) 3 2 (.bool true) (.int .i64 (-1)) rfl rfl ok1 (by simp [rcs]))
      have h00 : (d.trip == 0) = true := by simpa using h0
      clear h e1 e2 hd ok1 h0 t1 t2
      generalize d.trip = tr at *
      go_enter Try.func37, Try.ntmps37
      go_wp2_with fail
      go_ret
      exact ⟨rfl, ⟨vk, vc, HX.out.1⟩, HX.out.2⟩
    · have e1 : d.may = true := by simp [DS.may, hd, h0]
      by_cases hp : 0 < d.trip
      · have e2 : d.next = { d with trip := d.trip - 1 } := by simp [DS.next, hd, h0, hp]
        have ok1 := h.ok.next
        rw [e1, e2]
        rw [e2] at ok1
        have HX := Lib.hid (h.field (d' := { d with trip := d.trip - 1 }) 2 (.int .i64 (d.trip - 1)) rfl rfl ok1 (by simp [rcs]))
        have h00 : (d.trip == 0) = false := by simpa using h0
        have hp1 : d.trip > 0 := hp
        have hw : IntKind.i64.wrap (d.trip - 1) = d.trip - 1 := IntWalk.i64_in _ (by omega)
        clear h e1 e2 hd ok1 h0
        generalize d.trip = tr at *
        go_enter Try.func37, Try.ntmps37
        go_wp2_with fail
        go_ret
        exact ⟨rfl, ⟨vk, vc, HX.out.1⟩, HX.out.2⟩
      · have e2 : d.next = d := by simp [DS.next, hd, h0, hp]
        rw [e1, e2]
        have HD := Lib.hid h
        have h00 : (d.trip == 0) = false := by simpa using h0
        have hp1 : decide (d.trip > 0) = false := by simpa using hp
        clear h e1 e2 hd h0
        generalize d.trip = tr at *
        go_enter Try.func37, Try.ntmps37
        go_wp2_with fail
        go_ret
        exact ⟨rfl, ⟨vk, vc, HD.out⟩, Fr.refl _ _⟩
set_option maxRecDepth 100000 in
/-- a trip is laid -/
theorem rarm_any (w : World) (S T : Nat → Prop) (g : Nat) (d : DS) (h : RAt w S T g d) (n : Int) (hn : n ≤ 9223372036854775807) :
    Calls Try.prog 32 #[ptr (some g), .int .i64 n] w fun e w' => e = .returned (.tuple #[]) ∧ RAt w' S T g (d.arm n) ∧ Fr w w' S := by
  obtain ⟨vk, vc, h⟩ := h
  have hc2 := h.b.cell 2
  have hc3 := h.b.cell 3
  have hf2 := h.b.frozen 2
  simp only [rcs, List.getElem?_toArray, List.getElem?_cons_zero, List.getElem?_cons_succ] at hc2 hc3
  simp only [ptr, Option.map]
  obtain ⟨m, hm⟩ : ∃ m, m = max n (-1) := ⟨_, rfl⟩
  cases hd : d.dark with
  | true =>
    rw [hd] at hc3
    have e2 : d.arm n = d := by simp [DS.arm, hd]
    rw [e2]
    have HD := Lib.hid h
    clear h hd e2 hm
    go_enter Try.func32, Try.ntmps32
    go_wp2_with fail
    refine bodyPost_end (results_none rfl _ _ _) rfl ?_
    exact ⟨rfl, ⟨vk, vc, HD.out⟩, Fr.refl _ _⟩
  | false =>
    rw [hd] at hc3
    have e2 : d.arm n = { d with trip := max n (-1) } := by simp [DS.arm, hd]
    have ok1 := h.ok.arm hn
    rw [e2] at ok1 ⊢
    have HX := h.field (d' := { d with trip := max n (-1) }) 2 (.int .i64 (max n (-1))) rfl rfl ok1 (by simp [rcs])
    rw [← hm] at HX ⊢
    have HX := Lib.hid HX
    have hmm : max n (-1) = m := hm.symm
    clear h hd e2 hm ok1
    go_enter Try.func32, Try.ntmps32
    go_wp2_with fail
    · obtain rfl : m = -1 := by omega
      refine bodyPost_end (results_none rfl _ _ _) rfl ?_
      exact ⟨rfl, ⟨vk, vc, HX.out.1⟩, HX.out.2⟩
    · obtain rfl : m = n := by omega
      refine bodyPost_end (results_none rfl _ _ _) rfl ?_
      exact ⟨rfl, ⟨vk, vc, HX.out.1⟩, HX.out.2⟩
end Go.Proofs.Ytjblcligkgjbjaa
