/-
  THE WALK OF does: Read, Write.
-/
import Derived.Test.YtjblcligkgjbjaaWalkY
import Derived.Test.YtjblcligkgjbjaaWalkN
namespace Go.Proofs.Ytjblcligkgjbjaa
open Go.RowKit Go.Sort Go.Maps

def inR (d : DS) (x : Int) : Bool := decide (0 ≤ x ∧ x < (d.kept.length : Int))
def codeR (d : DS) (x : Int) : Int := if inR d x then (if d.may then 0 else 8) else 2
def bytesR (d : DS) (x : Int) : List Nat := if inR d x then (if d.may then d.seen x.toNat else []) else []
def afterR (d : DS) (x : Int) : DS := if inR d x then (if d.may then d.next.read else d.next) else d
def codeW (d : DS) (x : Int) (m : Nat) : Int := if inR d x then (if m = 512 then (if d.may then 0 else 8) else 1) else 2
def afterW (d : DS) (x : Int) (m : Nat) (b : List Nat) : DS := if inR d x then (if m = 512 then (if d.may then d.next.write x.toNat b else d.next) else d) else d
set_option maxRecDepth 100000 in
theorem afterR_len (d : DS) (x : Int) : (afterR d x).kept.length = d.kept.length ∧ (afterR d x).cache.length = d.cache.length := by
  unfold afterR
  split
  · split
    · exact next_len d
    · exact next_len d
  · exact ⟨rfl, rfl⟩
set_option maxRecDepth 100000 in
theorem afterW_len (d : DS) (x : Int) (m : Nat) (b : List Nat) : (afterW d x m b).kept.length = d.kept.length ∧ (afterW d x m b).cache.length ≤ d.cache.length + 1 := by
  unfold afterW
  have h := next_len d
  split
  · split
    · split
      · refine ⟨h.1, ?_⟩
        show (d.next.cache ++ _).length ≤ _
        rw [List.length_append, h.2]; exact Nat.le_refl _
      · exact ⟨h.1, by rw [h.2]; exact Nat.le_succ _⟩
    · exact ⟨rfl, Nat.le_succ _⟩
  · exact ⟨rfl, Nat.le_succ _⟩
set_option maxRecDepth 100000 in
theorem read_word (w : World) (S : Nat → Prop) (g : Nat) (d : DS) (h : DAt w S g d) (x : Int) :
    Calls Try.prog 26 #[ptr (some g), .int .i64 x] w fun e w' => ∃ A n, e = .returned (.tuple #[.slice A n n, .int .i64 (codeR d x)]) ∧ RB w' (fun b => w.heap.size ≤ b ∧ b < w'.heap.size) A n (bytesR d x) ∧ WB w' (fun b => w.heap.size ≤ b ∧ b < w'.heap.size) A n ∧ n ≤ 512 ∧ DAt w' S g (afterR d x) ∧ Fr w w' S := by
  unfold codeR bytesR afterR
  by_cases hx : 0 ≤ x ∧ x < (d.kept.length : Int)
  · have e1 : inR d x = true := decide_eq_true hx
    rw [e1]
    obtain ⟨a, rfl⟩ : ∃ a : Nat, x = (a : Int) := ⟨x.toNat, by omega⟩
    have ha : a < d.kept.length := by omega
    cases hm : d.may with
    | true =>
      refine (read_some w S g d h a ha hm).mono fun e w' ⟨k, he, hk, hb, hd, hf⟩ => ?_
      have hsec := seen_sec h.ok ha
      simp only [if_true, Int.toNat_natCast]
      exact ⟨_, _, he, RB.of_any hb ⟨hk, hb.lt⟩ hsec.2 hsec.1, WB.of_blk hb ⟨hk, hb.lt⟩ hsec.2 hsec.1, Nat.le_refl _, hd, hf⟩
    | false =>
      refine (read_dark w S g d h a ha hm).mono fun e w' ⟨he, hd, hf⟩ => ?_
      simp only [if_true, Bool.false_eq_true, if_false]
      exact ⟨_, _, he, RB.nil_, ⟨[], RB.nil_, fun ad e => by cases e⟩, by omega, hd, hf⟩
  · have e1 : inR d x = false := decide_eq_false hx
    rw [e1]
    refine (read_out w S g d h x (by omega)).mono fun e w' ⟨he, hw⟩ => ?_
    subst hw
    simp only [Bool.false_eq_true, if_false]
    exact ⟨_, _, he, RB.nil_, ⟨[], RB.nil_, fun ad e => by cases e⟩, by omega, h, Fr.refl _ _⟩
set_option maxRecDepth 100000 in
theorem rread_word (w : World) (S T : Nat → Prop) (g : Nat) (d : DS) (h : RAt w S T g d) (x : Int) (hlen : d.cache.length < 1000000) :
    Calls Try.prog 29 #[ptr (some g), .int .i64 x] w fun e w' => ∃ A n c, e = .returned (.tuple #[.slice A n c, .int .i64 (codeR d x)]) ∧ RB w' (fun _ => True) A n (bytesR d x) ∧ RAt w' S T g (afterR d x) ∧ Fr w w' S := by
  unfold codeR bytesR afterR
  by_cases hx : 0 ≤ x ∧ x < (d.kept.length : Int)
  · have e1 : inR d x = true := decide_eq_true hx
    rw [e1]
    obtain ⟨a, rfl⟩ : ∃ a : Nat, x = (a : Int) := ⟨x.toNat, by omega⟩
    have ha : a < d.kept.length := by omega
    cases hm : d.may with
    | true =>
      refine (rread_some w S T g d h a ha hm hlen).mono fun e w' ⟨v, he, hn, hd, hf⟩ => ?_
      obtain ⟨A, c, e2, _, _, hr⟩ := hn.reads
      subst e2
      simp only [if_true, Int.toNat_natCast]
      exact ⟨_, _, _, he, hr.mono fun _ _ _ => trivial, hd, hf⟩
    | false =>
      refine (rread_dark w S T g d h a ha hm).mono fun e w' ⟨he, hd, hf⟩ => ?_
      simp only [if_true, Bool.false_eq_true, if_false]
      exact ⟨_, _, _, he, RB.nil_, hd, hf⟩
  · have e1 : inR d x = false := decide_eq_false hx
    rw [e1]
    refine (rread_out w S T g d h x (by omega)).mono fun e w' ⟨he, hw⟩ => ?_
    subst hw
    simp only [Bool.false_eq_true, if_false]
    exact ⟨_, _, _, he, RB.nil_, h, Fr.refl _ _⟩
set_option maxRecDepth 100000 in
theorem write_word (w : World) (S : Nat → Prop) (g : Nat) (d : DS) (h : DAt w S g d) (x : Int) (U : Nat → Prop) (A : Option Addr) (m c : Nat) (b : List Nat) (hr : RB w U A m b) (hU : ∀ y, U y → ¬ S y) (hlen : d.cache.length < 1000000) :
    Calls Try.prog 23 #[ptr (some g), .int .i64 x, .slice A m c] w fun e w' => e = .returned (.int .i64 (codeW d x m)) ∧ DAt w' (Up S w) g (afterW d x m b) ∧ Fr w w' S := by
  unfold codeW afterW
  by_cases hx : 0 ≤ x ∧ x < (d.kept.length : Int)
  · have e1 : inR d x = true := decide_eq_true hx
    rw [e1]
    obtain ⟨a, rfl⟩ : ∃ a : Nat, x = (a : Int) := ⟨x.toNat, by omega⟩
    have ha : a < d.kept.length := by omega
    by_cases hm5 : m = 512
    · subst hm5
      cases hm : d.may with
      | true => simpa using write_some w S g d h a ha hm U A c b hr hU hlen
      | false => simpa using (write_dark w S g d h a ha A c hm).mono fun e w' ⟨he, hd, hf⟩ => ⟨he, hd.mono (T := Up S w) fun _ _ h => Or.inl h, hf⟩
    · simp only [if_true, if_neg hm5]
      exact (write_arg w S g d h a ha A m c hm5).mono fun e w' ⟨he, hw⟩ => by subst hw; exact ⟨he, h.mono fun _ _ h => Or.inl h, Fr.refl _ _⟩
  · have e1 : inR d x = false := decide_eq_false hx
    rw [e1]
    simp only [Bool.false_eq_true, if_false]
    exact (write_out w S g d h x (by omega) A m c).mono fun e w' ⟨he, hw⟩ => by subst hw; exact ⟨he, h.mono fun _ _ h => Or.inl h, Fr.refl _ _⟩
set_option maxRecDepth 100000 in
theorem rwrite_word (w : World) (S T : Nat → Prop) (g : Nat) (d : DS) (h : RAt w S T g d) (x : Int) (U : Nat → Prop) (A : Option Addr) (m c : Nat) (b : List Nat) (hr : RB w U A m b) (hU : ∀ y, U y → ¬ S y) (hlen : d.cache.length < 1000000) :
    Calls Try.prog 30 #[ptr (some g), .int .i64 x, .slice A m c] w fun e w' => e = .returned (.int .i64 (codeW d x m)) ∧ (∃ S' T', RAt w' S' T' g (afterW d x m b) ∧ (∀ q, S' q → S q ∨ w.heap.size ≤ q) ∧ (∀ q, T' q → T q ∨ w.heap.size ≤ q)) ∧ Fr w w' S := by
  unfold codeW afterW
  by_cases hx : 0 ≤ x ∧ x < (d.kept.length : Int)
  · have e1 : inR d x = true := decide_eq_true hx
    rw [e1]
    obtain ⟨a, rfl⟩ : ∃ a : Nat, x = (a : Int) := ⟨x.toNat, by omega⟩
    have ha : a < d.kept.length := by omega
    by_cases hm5 : m = 512
    · subst hm5
      cases hm : d.may with
      | true => simpa using rwrite_some w S T g d h a ha hm U A c b hr hU hlen
      | false => simpa using (rwrite_dark w S T g d h a ha A c hm).mono fun e w' ⟨he, hd, hf⟩ => ⟨he, ⟨S, T, hd, fun _ h => Or.inl h, fun _ h => Or.inl h⟩, hf⟩
    · simp only [if_true, if_neg hm5]
      exact (rwrite_arg w S T g d h a ha A m c hm5).mono fun e w' ⟨he, hw⟩ => by subst hw; exact ⟨he, ⟨S, T, h, fun _ h => Or.inl h, fun _ h => Or.inl h⟩, Fr.refl _ _⟩
  · have e1 : inR d x = false := decide_eq_false hx
    rw [e1]
    simp only [Bool.false_eq_true, if_false]
    exact (rwrite_out w S T g d h x (by omega) A m c).mono fun e w' ⟨he, hw⟩ => by subst hw; exact ⟨he, ⟨S, T, h, fun _ h => Or.inl h, fun _ h => Or.inl h⟩, Fr.refl _ _⟩
set_option maxRecDepth 100000 in
/-- others' memory has changed -/
theorem BS.keep {w w' : World} {B : Nat} {S1 S2 T U : Nat → Prop} {g1 g2 : Nat} {d r : DS} (h : BS w B S1 S2 T g1 g2 d r) (hf : Fr w w' U) (hU : ∀ x, U x → ¬ S1 x ∧ ¬ S2 x ∧ ¬ T x) : BS w' B S1 S2 T g1 g2 d r :=
  ⟨h.a.keep hf fun x h1 h2 => (hU x h2).1 h1, h.r.keep hf (fun x h1 h2 => (hU x h2).2.1 h1) fun x h1 h2 => (hU x h2).2.2 h1, h.s, fun x hx => ⟨(h.b1 x hx).1, Nat.lt_of_lt_of_le (h.b1 x hx).2 hf.size⟩, h.b2, h.b3⟩
set_option maxRecDepth 100000 in
theorem BS.leftS {w w' : World} {B : Nat} {S1 S2 T : Nat → Prop} {g1 g2 : Nat} {d r d' : DS} (h : BS w B S1 S2 T g1 g2 d r) (hd : DAt w' S1 g1 d') (hf : Fr w w' S1) : BS w' B S1 S2 T g1 g2 d' r :=
  ⟨hd, h.r.keep hf (fun x h2 h1 => (h.s x h1).1 h2) fun x h2 h1 => (h.s x h1).2 h2, h.s, fun x hx => ⟨(h.b1 x hx).1, Nat.lt_of_lt_of_le (h.b1 x hx).2 hf.size⟩, h.b2, h.b3⟩
attribute [local go_sem high] run_eqs
set_option maxHeartbeats 1000000 in
set_option maxRecDepth 100000 in
theorem does_read (w : World) (B : Nat) (hB : B ≤ w.heap.size) (S1 S2 T : Nat → Prop) (g1 g2 : Nat) (d : DS) (h : BS w B S1 S2 T g1 g2 d d) (s : St) (hs : s.In w B) (h0 : s.k = 0) (hlen : d.cache.length < 900000) :
    Calls Try.prog 14 #[ptr (some g1), ptr (some g2), s.agg] w (Does B g1 g2 d w) := by
  obtain ⟨W, hW⟩ : ∃ W, W = w.alloc (.cells #[.int .i64 s.k, .int .i64 s.a, .slice s.A s.m s.c, .int .i64 s.n, .slice s.K s.q s.r] 36) := ⟨_, rfl⟩
  have hFW : Fr w W No := by rw [hW]; exact (Fr.refl _ _).alloc _
  have hBW : B ≤ W.heap.size := Nat.le_trans hB hFW.size
  have hT := h.fr hFW
  have hbW : Below B w W := hFW.below (fun _ hb => hb.elim) hB
  have hxb : Blk W w.heap.size 36 #[.int .i64 s.k, .int .i64 s.a, .slice s.A s.m s.c, .int .i64 s.n, .slice s.K s.q s.r] := by rw [hW]; exact Blk.new w 36 _
  have hx1 : ¬ S1 w.heap.size := fun hx => by have := (h.b1 _ hx).2; omega
  have hzW : w.heap.size < W.heap.size := hxb.lt
  have x0 := hxb.cell 0
  have x1 := hxb.cell 1
  have x2 := hxb.cell 2
  simp only [List.getElem?_toArray, List.getElem?_cons_zero, List.getElem?_cons_succ] at x0 x1 x2
  have k0 : (s.k == 0) = true := by rw [beq_iff_eq]; exact h0
  have HX := Lib.hid hxb
  have HT := Lib.hid hT
  have HB := Lib.hid hbW
  have HX1 := Lib.hid hx1
  have HI := Lib.hid (hs.below hbW)
  have HR := Lib.hid (read_word W S1 g1 d hT.a s.a)
  generalize hz : w.heap.size = z at *
  clear h hs hFW hT hbW hxb hx1 h0
  replace hW := hW.symm
  simp only [ptr, Option.map, St.agg] at HR ⊢
  obtain ⟨f, hf0⟩ : ∃ f, codeR d s.a = f := ⟨_, rfl⟩
  obtain ⟨l, hl0⟩ : ∃ l, bytesR d s.a = l := ⟨_, rfl⟩
  rw [hf0, hl0] at HR
  have HF0 := Lib.hid hf0
  have HL0 := Lib.hid hl0
  clear hf0 hl0
  go_enter Try.func14, Try.ntmps14
  go_wp2_with fail
  with_reducible refine HR.out.mono ?_
  rintro e w1 ⟨A1, n1, rfl, hr1, hw1, hn1, hd, hf⟩
  have hT1 := HT.out.leftS hd hf
  have HB1 := Lib.hid (HB.out.trans (HT.out.below1 hBW hf))
  have hB1 : B ≤ w1.heap.size := Nat.le_trans hBW hf.size
  have hrd := rread_word w1 S2 T g2 d hT1.r s.a (by omega)
  rw [HF0.out, HL0.out] at hrd
  have HR2 := Lib.hid hrd
  have y1 := (HX.out.keep hf HX1.out).cell 1
  simp only [List.getElem?_toArray, List.getElem?_cons_zero, List.getElem?_cons_succ] at y1
  obtain ⟨OS, hOS⟩ : ∃ OS : Nat → Prop, OS = fun b => W.heap.size ≤ b ∧ b < w1.heap.size := ⟨_, rfl⟩
  rw [← hOS] at hr1 hw1
  have HU := Lib.hid (show ∀ x, OS x → ¬ S1 x ∧ ¬ S2 x ∧ ¬ T x from fun x hx => by
    rw [hOS] at hx
    exact ⟨fun h1 => by have := (HT.out.b1 x h1).2; omega, fun h2 => by have := HT.out.r.sl x h2; omega, fun h2 => by have := HT.out.r.tl x h2; omega⟩)
  have HUB := Lib.hid (show ∀ x, OS x → B ≤ x from fun x hx => by rw [hOS] at hx; omega)
  have HT1 := Lib.hid hT1
  have HR1 := Lib.hid hr1
  have HW1 := Lib.hid hw1
  clear hd hf hT1 HR hr1 hw1 hrd hOS
  simp only [ptr, Option.map] at HR2
  go_wp2_with fail
  with_reducible refine HR2.out.mono ?_
  rintro e w2 ⟨A2, n2, c2, rfl, hr2, hr, hf⟩
  have HT2 := Lib.hid (HT1.out.right hB1 hr (fun _ hq => Or.inl hq) (fun _ hq => Or.inl hq) hf)
  have hb2 := HT1.out.below2 hB1 hf
  have HB2 := Lib.hid (HB1.out.trans hb2)
  have hB2 : B ≤ w2.heap.size := Nat.le_trans hB1 hf.size
  have HW2 := Lib.hid (HW1.out.keep hf fun b hb h2 => (HU.out b hb).2.1 h2)
  have hcv1 := run_conv _ A1 n1 n1 l w2 (HR1.out.keep hf fun b hb h2 => (HU.out b hb).2.1 h2)
  have hcv2 := run_conv _ A2 n2 c2 l w2 hr2
  have hse : seq (bs l) (bs l) = true := seq_refl _
  clear hr2 hr hf HR2 hb2
  go_wp2_with fail
  go_loopw [12] (fun u wr => ∃ i : Nat, u = .int .i64 (i : Int) ∧ i ≤ n1 ∧ WB wr OS A1 n1 ∧ Fr w2 wr OS) (fun u _ => n1 - (intOf u).toNat)
  case atStart => exact ⟨0, rfl, by omega, HW2.out, Fr.refl _ _⟩
  case round =>
    obtain ⟨i, rfl, hi, hw, hf⟩ := hrel
    by_cases hlt : i < n1
    · obtain ⟨ad, x, rfl, hx, hcell, hfz, hOa, hset⟩ := hw.at_ hlt
      obtain ⟨y, hy⟩ : ∃ y, y = (x + 1) % 256 := ⟨_, rfl⟩
      have hy2 : y < 256 := by omega
      have hw8 : IntKind.u8.wrap ((x : Int) + 1) = (y : Int) := by rw [IntKind.wrap_u8]; omega
      have HS := Lib.hid (hset y hy2)
      have HFi := Lib.hid (show Fr w2 (wr.setCell (ad.add i) (.int .u8 (y : Int))) OS from hf.setCell (Or.inl (by rw [block_of_add]; exact hOa)) _)
      have hin : ((i : Int) < (n1 : Int)) := by omega
      have hWi : IntKind.i64.wrap ((i : Int) + 1) = ((i + 1 : Nat) : Int) := by rw [IntWalk.i64_in _ (by omega)]; omega
      clear hw hf hset hy hx
      go_wp2_with fail
      go_roundw
      case rel => exact ⟨i + 1, by go_num, by omega, HS.out, HFi.out⟩
      case measure => simp [intOf]; omega
    · have h1d : decide ((i : Int) < (n1 : Int)) = false := decide_eq_false (by omega)
      have h1d2 : decide (i < n1) = false := decide_eq_false hlt
      have HT3 := Lib.hid (HT2.out.keep hf HU.out)
      have HB3 := Lib.hid (HB2.out.trans (hf.below HUB.out hB2))
      have hl := afterR_len d s.a
      clear hw hf
      go_wp2_with fail
      go_ret
      exact ⟨_, _, _, _, rfl, HT3.out, HB3.out, hl.1, by omega⟩
set_option maxHeartbeats 1000000 in
set_option maxRecDepth 100000 in
theorem does_write (w : World) (B : Nat) (hB : B ≤ w.heap.size) (S1 S2 T : Nat → Prop) (g1 g2 : Nat) (d : DS) (h : BS w B S1 S2 T g1 g2 d d) (s : St) (hs : s.In w B) (h0 : s.k = 1) (hlen : d.cache.length < 900000) (hm5 : s.m ≤ 140737488351232) :
    Calls Try.prog 14 #[ptr (some g1), ptr (some g2), s.agg] w (Does B g1 g2 d w) := by
  obtain ⟨W, hW⟩ : ∃ W, W = w.alloc (.cells #[.int .i64 s.k, .int .i64 s.a, .slice s.A s.m s.c, .int .i64 s.n, .slice s.K s.q s.r] 36) := ⟨_, rfl⟩
  have hFW : Fr w W No := by rw [hW]; exact (Fr.refl _ _).alloc _
  have hBW : B ≤ W.heap.size := Nat.le_trans hB hFW.size
  have hT := h.fr hFW
  have hbW : Below B w W := hFW.below (fun _ hb => hb.elim) hB
  have hxb : Blk W w.heap.size 36 #[.int .i64 s.k, .int .i64 s.a, .slice s.A s.m s.c, .int .i64 s.n, .slice s.K s.q s.r] := by rw [hW]; exact Blk.new w 36 _
  have hx1 : ¬ S1 w.heap.size := fun hx => by have := (h.b1 _ hx).2; omega
  have hzW : w.heap.size < W.heap.size := hxb.lt
  have x0 := hxb.cell 0
  have x1 := hxb.cell 1
  have x2 := hxb.cell 2
  simp only [List.getElem?_toArray, List.getElem?_cons_zero, List.getElem?_cons_succ] at x0 x1 x2
  have k0 : (s.k == 1) = true := by rw [beq_iff_eq]; exact h0
  have k00 : (s.k == 0) = false := beq_false_of_ne (by omega)
  have HX := Lib.hid hxb
  have HT := Lib.hid hT
  have HB := Lib.hid hbW
  have HX1 := Lib.hid hx1
  have HI := Lib.hid (hs.below hbW)
  have HC := Lib.hid (copy_any W (fun x => x < B) s.A s.m s.c s.b HI.out.b hm5)
  generalize hz : w.heap.size = z at *
  clear h hs hFW hT hbW hxb hx1 h0
  replace hW := hW.symm
  simp only [ptr, Option.map, St.agg]
  obtain ⟨f, hf0⟩ : ∃ f, codeW d s.a s.m = f := ⟨_, rfl⟩
  have HF0 := Lib.hid hf0
  clear hf0
  go_enter Try.func14, Try.ntmps14
  go_wp2_with fail
  with_reducible refine HC.out.mono ?_
  rintro e w1 ⟨v, rfl, hnew, hf1⟩
  have hln : s.b.length = s.m := HI.out.b.len
  obtain ⟨A1, c1, rfl, hc1, _, hr1⟩ := Ow.reads hnew
  obtain ⟨A1', c1', e1, hwb⟩ := WB.of_ow hnew
  obtain ⟨rfl, rfl⟩ : A1 = A1' ∧ c1 = c1' := by injection e1 with a b c; exact ⟨a, c⟩
  clear e1 hnew HC
  rw [hln] at hr1 hwb hc1 ⊢
  obtain ⟨OS, hOS⟩ : ∃ OS : Nat → Prop, OS = fun b => W.heap.size ≤ b ∧ b < w1.heap.size := ⟨_, rfl⟩
  have hwb1 : WB w1 OS A1 s.m := by
    obtain ⟨l, h1, h2⟩ := hwb
    exact ⟨l, by rw [hOS]; exact h1.mono fun b hb hS => ⟨hS, hb⟩, h2⟩
  have hrb1 : RB w1 OS A1 s.m s.b := by rw [hOS]; exact hr1.mono fun b hb hS => ⟨hS, hb⟩
  have hT1 := HT.out.fr hf1
  have hb1 : Below B W w1 := hf1.below (fun _ hb => hb.elim) hBW
  have HB1 := Lib.hid (HB.out.trans hb1)
  have HI1 := Lib.hid (HI.out.below hb1)
  have hB1 : B ≤ w1.heap.size := Nat.le_trans hBW hf1.size
  have y := HX.out.keep hf1 fun hn => hn
  have y1 := y.cell 1
  simp only [List.getElem?_toArray, List.getElem?_cons_zero, List.getElem?_cons_succ] at y1
  have HY := Lib.hid y
  have hU : ∀ x, OS x → ¬ S1 x ∧ ¬ S2 x ∧ ¬ T x := fun x hx => by
    rw [hOS] at hx
    exact ⟨fun h1 => by have := (HT.out.b1 x h1).2; omega, fun h2 => by have := HT.out.r.sl x h2; omega, fun h2 => by have := HT.out.r.tl x h2; omega⟩
  have hwr := write_word w1 S1 g1 d hT1.a s.a OS A1 s.m c1 s.b hrb1 (fun x hx => (hU x hx).1) (by omega)
  rw [HF0.out] at hwr
  have HR := Lib.hid hwr
  have HU := Lib.hid hU
  have HOS := Lib.hid hOS
  have HT1 := Lib.hid hT1
  have HW1 := Lib.hid hwb1
  clear hf1 hr1 hwb hwb1 hrb1 hT1 hb1 y hwr hU hOS hc1
  simp only [ptr, Option.map] at HR
  go_wp2_with fail
  with_reducible refine HR.out.mono ?_
  rintro e w2 ⟨rfl, hd, hf⟩
  have hT2 := HT1.out.left hB1 hd hf
  have hb2 := HT1.out.below1 hB1 hf
  have HB2 := Lib.hid (HB1.out.trans hb2)
  have HI2 := Lib.hid (HI1.out.below hb2)
  have hB2 : B ≤ w2.heap.size := Nat.le_trans hB1 hf.size
  have hw2 := HW1.out.keep hf fun b hb h2 => (HU.out b hb).1 h2
  have HW2 := Lib.hid hw2
  have HT2 := Lib.hid hT2
  have HY2 := Lib.hid (HY.out.keep hf HX1.out)
  have HU2 := Lib.hid (show ∀ x, OS x → ¬ Upto S1 w1 w2 x ∧ ¬ S2 x ∧ ¬ T x from fun x hx => ⟨fun h1 => h1.1.elim (HU.out x hx).1 fun hge => by
    have h2 := hx
    rw [HOS.out] at h2
    omega, (HU.out x hx).2⟩)
  have HUB := Lib.hid (show ∀ x, OS x → B ≤ x from fun x hx => by rw [HOS.out] at hx; omega)
  have HUz := Lib.hid (show ¬ OS z from fun hx => by rw [HOS.out] at hx; omega)
  clear hd hf hT2 hb2 hw2 HR
  go_wp2_with fail
  go_loopw [15] (fun u wr => ∃ i : Nat, u = .int .i64 (i : Int) ∧ i ≤ s.m ∧ WB wr OS A1 s.m ∧ Fr w2 wr OS) (fun u _ => s.m - (intOf u).toNat)
  case atStart => exact ⟨0, rfl, by omega, HW2.out, Fr.refl _ _⟩
  case round =>
    obtain ⟨i, rfl, hi, hw, hf⟩ := hrel
    by_cases hlt : i < s.m
    · obtain ⟨ad, x, rfl, hx, hcell, hfz, hOa, hset⟩ := hw.at_ hlt
      obtain ⟨y, hy⟩ : ∃ y, y = (x + 1) % 256 := ⟨_, rfl⟩
      have hy2 : y < 256 := by omega
      have hw8 : IntKind.u8.wrap ((x : Int) + 1) = (y : Int) := by rw [IntKind.wrap_u8]; omega
      have HS := Lib.hid (hset y hy2)
      have HFi := Lib.hid (show Fr w2 (wr.setCell (ad.add i) (.int .u8 (y : Int))) OS from hf.setCell (Or.inl (by rw [block_of_add]; exact hOa)) _)
      have hin : ((i : Int) < (s.m : Int)) := by omega
      have hWi : IntKind.i64.wrap ((i : Int) + 1) = ((i + 1 : Nat) : Int) := by rw [IntWalk.i64_in _ (by omega)]; omega
      clear hw hf hset hy hx
      go_wp2_with fail
      go_roundw
      case rel => exact ⟨i + 1, by go_num, by omega, HS.out, HFi.out⟩
      case measure => simp [intOf]; omega
    · have h1d : decide ((i : Int) < (s.m : Int)) = false := decide_eq_false (by omega)
      have h1d2 : decide (i < s.m) = false := decide_eq_false hlt
      have hT3 := HT2.out.keep hf HU2.out
      have hb3 : Below B w2 wr := hf.below HUB.out hB2
      have HB3 := Lib.hid (HB2.out.trans hb3)
      have hB3 : B ≤ wr.heap.size := Nat.le_trans hB2 hf.size
      have z := HY2.out.keep hf HUz.out
      have z1 := z.cell 1
      have z2 := z.cell 2
      simp only [List.getElem?_toArray, List.getElem?_cons_zero, List.getElem?_cons_succ] at z1 z2
      have hrw := rwrite_word wr S2 T g2 d hT3.r s.a (fun x => x < B) s.A s.m s.c s.b (HI2.out.below hb3).b (fun y h1 h2 => by have := hT3.b2 y h2; omega) (by omega)
      rw [HF0.out] at hrw
      have HR2 := Lib.hid hrw
      have HT3 := Lib.hid hT3
      have hl := Lib.hid (afterW_len d s.a s.m s.b)
      clear hw hf hT3 hb3 z hrw
      simp only [ptr, Option.map] at HR2
      go_wp2_with fail
      with_reducible refine HR2.out.mono ?_
      rintro e w4 ⟨rfl, ⟨S', T', hr, h1, h2⟩, hf⟩
      have HT4 := Lib.hid (HT3.out.right hB3 hr h1 h2 hf)
      have HB4 := Lib.hid (HB3.out.trans (HT3.out.below2 hB3 hf))
      clear hr h1 h2 hf HR2
      go_wp2_with fail
      go_ret
      exact ⟨_, _, _, _, rfl, HT4.out, HB4.out, hl.out.1, hl.out.2⟩
end Go.Proofs.Ytjblcligkgjbjaa
