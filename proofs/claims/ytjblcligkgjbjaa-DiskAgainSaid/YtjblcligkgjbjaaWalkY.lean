/-
  THE PROGRAM'S DISK AND THE DOCUMENT'S SIDE BY SIDE; THE WALK OF does, all but Read and Write.
-/
import Derived.Test.YtjblcligkgjbjaaWalkX
import Derived.Test.YtjblcligkgjbjaaWalkO
namespace Go.Proofs.Ytjblcligkgjbjaa
open Go.RowKit Go.Sort Go.Maps

set_option maxRecDepth 100000 in
theorem RAt.sl {w : World} {S T : Nat → Prop} {g : Nat} {d : DS} (h : RAt w S T g d) : ∀ x, S x → x < w.heap.size := by obtain ⟨_, _, h⟩ := h; exact h.sl
set_option maxRecDepth 100000 in
theorem RAt.tl {w : World} {S T : Nat → Prop} {g : Nat} {d : DS} (h : RAt w S T g d) : ∀ x, T x → x < w.heap.size := by obtain ⟨_, _, h⟩ := h; exact h.tl
/-- the program's disk stands as d, the document's as r; both above B -/
structure BS (w : World) (B : Nat) (S1 S2 T : Nat → Prop) (g1 g2 : Nat) (d r : DS) : Prop where
  a : DAt w S1 g1 d
  r : RAt w S2 T g2 r
  s : ∀ x, S1 x → ¬ S2 x ∧ ¬ T x
  b1 : ∀ x, S1 x → B ≤ x ∧ x < w.heap.size
  b2 : ∀ x, S2 x → B ≤ x
  b3 : ∀ x, T x → B ≤ x
section
variable {w w' : World} {B : Nat} {S1 S2 T S2' T' : Nat → Prop} {g1 g2 : Nat} {d r d' r' : DS}
set_option maxRecDepth 100000 in
theorem BS.fr (h : BS w B S1 S2 T g1 g2 d r) (hf : Fr w w' No) : BS w' B S1 S2 T g1 g2 d r :=
  ⟨h.a.keep hf fun _ _ hn => hn, h.r.keep hf (fun _ _ hn => hn) fun _ _ hn => hn, h.s, fun x hx => ⟨(h.b1 x hx).1, Nat.lt_of_lt_of_le (h.b1 x hx).2 hf.size⟩, h.b2, h.b3⟩
set_option maxRecDepth 100000 in
theorem BS.left (h : BS w B S1 S2 T g1 g2 d r) (hB : B ≤ w.heap.size) (hd : DAt w' (Up S1 w) g1 d') (hf : Fr w w' S1) : BS w' B (Upto S1 w w') S2 T g1 g2 d' r :=
  ⟨hd.tight, h.r.keep hf (fun x h2 h1 => (h.s x h1).1 h2) fun x h2 h1 => (h.s x h1).2 h2,
    fun x hx => hx.1.elim (fun h1 => h.s x h1) (fun h1 => ⟨fun h2 => by have := h.r.sl x h2; omega, fun h2 => by have := h.r.tl x h2; omega⟩),
    fun x hx => ⟨hx.1.elim (fun h1 => (h.b1 x h1).1) (fun h1 => by omega), hx.2⟩, h.b2, h.b3⟩
set_option maxRecDepth 100000 in
theorem BS.right (h : BS w B S1 S2 T g1 g2 d r) (hB : B ≤ w.heap.size) (hr : RAt w' S2' T' g2 r') (h2 : ∀ q, S2' q → S2 q ∨ w.heap.size ≤ q) (h3 : ∀ q, T' q → T q ∨ w.heap.size ≤ q) (hf : Fr w w' S2) : BS w' B S1 S2' T' g1 g2 d r' :=
  ⟨h.a.keep hf fun x h1 h2 => (h.s x h1).1 h2, hr, fun x hx => ⟨fun hn => (h2 x hn).elim (h.s x hx).1 fun hge => by have := (h.b1 x hx).2; omega, fun hn => (h3 x hn).elim (h.s x hx).2 fun hge => by have := (h.b1 x hx).2; omega⟩,
    fun x hx => ⟨(h.b1 x hx).1, Nat.lt_of_lt_of_le (h.b1 x hx).2 hf.size⟩, fun x hx => (h2 x hx).elim (h.b2 x) fun hge => by omega, fun x hx => (h3 x hx).elim (h.b3 x) fun hge => by omega⟩
set_option maxRecDepth 100000 in
theorem BS.below1 (h : BS w B S1 S2 T g1 g2 d r) (hB : B ≤ w.heap.size) (hf : Fr w w' S1) : Below B w w' := hf.below (fun x hx => (h.b1 x hx).1) hB
set_option maxRecDepth 100000 in
theorem BS.below2 (h : BS w B S1 S2 T g1 g2 d r) (hB : B ≤ w.heap.size) (hf : Fr w w' S2) : Below B w w' := hf.below h.b2 hB
end
set_option maxRecDepth 100000 in
theorem sync_word (w : World) (S : Nat → Prop) (g : Nat) (d : DS) (h : DAt w S g d) (hlen : d.cache.length < 1000000) :
    Calls Try.prog 24 #[ptr (some g)] w fun e w' => e = .returned (.int .i64 (errD d.may)) ∧ DAt w' S g (if d.may then d.next.sync else d.next) ∧ Fr w w' S := by
  cases hm : d.may with
  | true => simpa [errD] using sync_some w S g d h hm hlen
  | false => simpa [errD] using sync_dark w S g d h hm
set_option maxRecDepth 100000 in
theorem rsync_word (w : World) (S T : Nat → Prop) (g : Nat) (d : DS) (h : RAt w S T g d) (hlen : d.cache.length < 1000000) :
    Calls Try.prog 31 #[ptr (some g)] w fun e w' => e = .returned (.int .i64 (errD d.may)) ∧ RAt w' S T g (if d.may then d.next.sync else d.next) ∧ Fr w w' S := by
  cases hm : d.may with
  | true => simpa [errD] using rsync_some w S T g d h hm hlen
  | false => simpa [errD] using rsync_dark w S T g d h hm
/-- what does comes to -/
def Does (B : Nat) (g1 g2 : Nat) (d : DS) (w : World) (e : Ending) (w' : World) : Prop :=
  ∃ S1 S2 T d', e = .returned (.bool true) ∧ BS w' B S1 S2 T g1 g2 d' d' ∧ Below B w w' ∧ d'.kept.length = d.kept.length ∧ d'.cache.length ≤ d.cache.length + 1
set_option maxRecDepth 100000 in
theorem next_len (d : DS) : d.next.kept.length = d.kept.length ∧ d.next.cache.length = d.cache.length := by rw [next_kept, next_cache]; exact ⟨rfl, rfl⟩
set_option maxRecDepth 100000 in
theorem sync_len (d : DS) : d.sync.kept.length = d.kept.length ∧ d.sync.cache.length = 0 := ⟨by show (setN _ _ _).length = _; rw [setN_len], rfl⟩
set_option maxHeartbeats 1000000 in
set_option maxRecDepth 100000 in
theorem does_rest (w : World) (B : Nat) (hB : B ≤ w.heap.size) (S1 S2 T : Nat → Prop) (g1 g2 : Nat) (d : DS) (h : BS w B S1 S2 T g1 g2 d d) (s : St) (hs : s.In w B) (h0 : s.k ≠ 0) (h1 : s.k ≠ 1) (hlen : d.cache.length < 900000) (hq : s.q < 900000) :
    Calls Try.prog 14 #[ptr (some g1), ptr (some g2), s.agg] w (Does B g1 g2 d w) := by
  obtain ⟨W, hW⟩ : ∃ W, W = w.alloc (.cells #[.int .i64 s.k, .int .i64 s.a, .slice s.A s.m s.c, .int .i64 s.n, .slice s.K s.q s.r] 36) := ⟨_, rfl⟩
  have hFW : Fr w W No := by rw [hW]; exact (Fr.refl _ _).alloc _
  have hsW := hFW.size
  have hBW : B ≤ W.heap.size := Nat.le_trans hB hsW
  have hT := h.fr hFW
  have hbW : Below B w W := hFW.below (fun _ hb => hb.elim) hB
  have hxb : Blk W w.heap.size 36 #[.int .i64 s.k, .int .i64 s.a, .slice s.A s.m s.c, .int .i64 s.n, .slice s.K s.q s.r] := by rw [hW]; exact Blk.new w 36 _
  have hx1 : ¬ S1 w.heap.size := fun hx => by have := (h.b1 _ hx).2; omega
  have x0 := hxb.cell 0
  have x3 := hxb.cell 3
  have x4 := hxb.cell 4
  simp only [List.getElem?_toArray, List.getElem?_cons_zero, List.getElem?_cons_succ] at x0 x3 x4
  have k0 : (s.k == 0) = false := beq_false_of_ne h0
  have k1 : (s.k == 1) = false := beq_false_of_ne h1
  have HX := Lib.hid hxb
  have HT := Lib.hid hT
  have HB := Lib.hid hbW
  have HI := Lib.hid (hs.below hbW)
  have HX1 := Lib.hid hx1
  have HF := Lib.hid hFW
  have HN := Lib.hid (next_len d)
  generalize hz : w.heap.size = z at *
  clear h hs hFW hT hbW hxb hx1
  replace hW := hW.symm
  simp only [ptr, Option.map, St.agg]
  by_cases h2 : s.k = 2
  · have k2 : (s.k == 2) = true := by rw [beq_iff_eq]; exact h2
    have HS := Lib.hid (sync_word W S1 g1 d HT.out.a (by omega))
    simp only [ptr, Option.map] at HS
    clear h2 h0 h1
    go_enter Try.func14, Try.ntmps14
    go_wp2_with fail
    with_reducible refine HS.out.mono ?_
    rintro e w1 ⟨rfl, hd, hf⟩
    have hT1 := HT.out.left hBW (hd.mono fun _ _ h => Or.inl h) hf
    have HB1 := Lib.hid (HB.out.trans (HT.out.below1 hBW hf))
    have hB1 : B ≤ w1.heap.size := Nat.le_trans hBW hf.size
    have HR := Lib.hid (rsync_word w1 S2 T g2 d hT1.r (by omega))
    have HT1 := Lib.hid hT1
    simp only [ptr, Option.map] at HR
    clear hd hf hT1 HS
    go_wp2_with fail
    with_reducible refine HR.out.mono ?_
    rintro e w2 ⟨rfl, hr, hf⟩
    have HT2 := Lib.hid (HT1.out.right hB1 hr (fun _ hq => Or.inl hq) (fun _ hq => Or.inl hq) hf)
    have HB2 := Lib.hid (HB1.out.trans (HT1.out.below2 hB1 hf))
    clear hr hf HR
    go_wp2_with fail
    go_ret
    refine ⟨_, _, _, _, rfl, HT2.out, HB2.out, ?_, ?_⟩
    · split
      · rw [(sync_len d.next).1]; exact HN.out.1
      · exact HN.out.1
    · split
      · rw [(sync_len d.next).2]; omega
      · have := HN.out.2; omega
  · have k2 : (s.k == 2) = false := beq_false_of_ne h2
    by_cases h3 : s.k = 3
    · have k3 : (s.k == 3) = true := by rw [beq_iff_eq]; exact h3
      have HS := Lib.hid (trip_any W S1 g1 d HT.out.a s.n HI.out.n)
      simp only [ptr, Option.map] at HS
      clear h2 h3 h0 h1
      go_enter Try.func14, Try.ntmps14
      go_wp2_with fail
      with_reducible refine HS.out.mono ?_
      rintro e w1 ⟨rfl, hd, hf⟩
      have hT1 := HT.out.left hBW (hd.mono fun _ _ h => Or.inl h) hf
      have HB1 := Lib.hid (HB.out.trans (HT.out.below1 hBW hf))
      have hB1 : B ≤ w1.heap.size := Nat.le_trans hBW hf.size
      have HR := Lib.hid (rarm_any w1 S2 T g2 d hT1.r s.n HI.out.n)
      have HT1 := Lib.hid hT1
      have y3 := (HX.out.keep hf HX1.out).cell 3
      have y0 := (HX.out.keep hf HX1.out).cell 0
      simp only [List.getElem?_toArray, List.getElem?_cons_zero, List.getElem?_cons_succ] at y3 y0
      simp only [ptr, Option.map] at HR
      clear hd hf hT1 HS
      go_wp2_with fail
      with_reducible refine HR.out.mono ?_
      rintro e w2 ⟨rfl, hr, hf⟩
      have HT2 := Lib.hid (HT1.out.right hB1 hr (fun _ hq => Or.inl hq) (fun _ hq => Or.inl hq) hf)
      have HB2 := Lib.hid (HB1.out.trans (HT1.out.below2 hB1 hf))
      clear hr hf HR
      go_wp2_with fail
      go_ret
      exact ⟨_, _, _, _, rfl, HT2.out, HB2.out, by unfold DS.arm; split <;> rfl, by unfold DS.arm; split <;> exact Nat.le_succ _⟩
    · have k3 : (s.k == 3) = false := beq_false_of_ne h3
      by_cases h4 : s.k = 4
      · have k4 : (s.k == 4) = true := by rw [beq_iff_eq]; exact h4
        have HS := Lib.hid (cut_any W S1 g1 d HT.out.a (fun x => x < B) s.K s.q s.r s.keep HI.out.k (fun y h1 h2 => by have := (HT.out.b1 y h2).1; omega) (by omega) (by omega))
        simp only [ptr, Option.map] at HS
        clear h2 h3 h4 h0 h1
        go_enter Try.func14, Try.ntmps14
        go_wp2_with fail
        with_reducible refine HS.out.mono ?_
        rintro e w1 ⟨rfl, hd, hf⟩
        have hT1 := HT.out.left hBW (hd.mono fun _ _ h => Or.inl h) hf
        have hb1 := HT.out.below1 hBW hf
        have HB1 := Lib.hid (HB.out.trans hb1)
        have hB1 : B ≤ w1.heap.size := Nat.le_trans hBW hf.size
        have HR := Lib.hid (rcut_any w1 S2 T g2 d hT1.r (fun x => x < B) s.K s.q s.r s.keep (HI.out.below hb1).k (fun y h1 h2 => by have := HT.out.b2 y h2; omega) (by omega))
        have HT1 := Lib.hid hT1
        have y4 := (HX.out.keep hf HX1.out).cell 4
        have y0 := (HX.out.keep hf HX1.out).cell 0
        simp only [List.getElem?_toArray, List.getElem?_cons_zero, List.getElem?_cons_succ] at y4 y0
        simp only [ptr, Option.map] at HR
        clear hd hf hT1 HS hb1
        go_wp2_with fail
        with_reducible refine HR.out.mono ?_
        rintro e w2 ⟨rfl, hr, hf⟩
        have HT2 := Lib.hid (HT1.out.right hB1 hr (fun _ hq => Or.inl hq) (fun _ hq => Or.inl hq) hf)
        have HB2 := Lib.hid (HB1.out.trans (HT1.out.below2 hB1 hf))
        clear hr hf HR
        go_wp2_with fail
        go_ret
        exact ⟨_, _, _, _, rfl, HT2.out, HB2.out, by show (cutN _ _ _ _).length = _; rw [cutN_len], Nat.zero_le _⟩
      · have k4 : (s.k == 4) = false := beq_false_of_ne h4
        clear h2 h3 h4 h0 h1
        go_enter Try.func14, Try.ntmps14
        go_wp2_with fail
        go_ret
        exact ⟨_, _, _, _, rfl, HT.out, HB.out, rfl, Nat.le_succ _⟩
end Go.Proofs.Ytjblcligkgjbjaa
