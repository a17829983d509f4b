/-
RU
-/
import Derived.Test.YtdhgbkibbileiaaGreatRT
import Derived.Handy
set_option maxRecDepth 100000
namespace Go.Proofs.YtdhgbkibbileiaaGreat
open Go.RowKit
abbrev Step := RE → Bool → List Nat → RE × Bool × List Nat
def fsteps (k : Int) : List (Bool × Step) := [(uT k, s71), (uP k, s72), (uU k, s73), (uO k, s74), (uO k, s75), (uO k, s79), (uI k, s84), (uC k, s88), (uC k, s92), (uC k, s93)]
def FRd (w : World) (S : Nat → Prop) (p : Option Nat) (g lo : Nat) (k : Int) (e : Ending) (w' : World) : Prop := ∃ (gf : Nat) (xs : List FV),
 e = .returned (.slice (some ⟨gf, 0, none⟩) 10 10) ∧ Below w.heap.size w w' ∧ w.heap.size ≤ gf ∧ Blk w' gf 87 (xs.flatMap FV.cells).toArray ∧ xs.length = 10 ∧
   (∀ x ∈ xs, (∃ b : Nat, x.gs = [.pointer (some ⟨b, 0, none⟩)] ∧ (x.g = 107 ∨ x.g = 79)) ∨ ∃ b b' : Nat, x.gs = [.pointer (some ⟨b, 0, none⟩), .pointer (some ⟨b', 0, none⟩)] ∧ (x.g = 113 ∨ x.g = 121 ∨ x.g = 125)) ∧
   ∀ (i : Nat) (x : FV), xs[i]? = some x → ∃ m : Bool × Step, (fsteps k)[i]? = some m ∧ x.u = m.1 ∧ RFn w' S p g lo x.g x.gs m.2
set_option maxHeartbeats 4000000 in
theorem fieldsR (w : World) (S : Nat → Prop) (p : Option Nat) (g lo : Nat) (r : RV) (T : Nat → Prop) (hr : r.In w T) (hb : Blk w g 31 (rcs r)) (hx : SX w S g lo) : Calls Tryz.prog 41 #[.pointer (some ⟨g, 0, none⟩)] w (FRd w S p g lo r.k) := by
 refine (fieldsOf_any w g r T hr hb).mono ?_
 rintro e w' ⟨gf, br, n0, n1, n2, n3, n4, m6, m7, m8, n9, he, hbel, ⟨hgf, hbr⟩, hblk, hbb, b0, b1, b2, b3, b4, b6, b7, b8, b9⟩
 have hsz := hbel.size
 have hx' : SX w' S g lo := ⟨fun b hb => Nat.lt_of_lt_of_le (hx.hS b hb) hsz, Nat.lt_of_lt_of_le hx.hg hsz, hx.ng, Nat.le_trans hx.lo hsz⟩
 have hn : ∀ n, w.heap.size ≤ n → ¬ (S n ∨ n = g) := fun n h1 h2 => by
  rcases h2 with h2 | h2
  ·have := hx.hS n h2; omega
  ·have := hx.hg; omega
 refine ⟨gf, [⟨uT r.k, decide (r.t = 0), 105, [.pointer (some ⟨n0, 0, none⟩)], 107, [.pointer (some ⟨(n0 + 1), 0, none⟩)]⟩, ⟨uP r.k, decide (r.a = 0), 105, [.pointer (some ⟨n1, 0, none⟩)], 107, [.pointer (some ⟨(n1 + 1), 0, none⟩)]⟩, ⟨uU r.k, decide (r.b = 0), 105, [.pointer (some ⟨n2, 0, none⟩)], 107, [.pointer (some ⟨(n2 + 1), 0, none⟩)]⟩, ⟨uO r.k, decide (r.pg = 0), 105, [.pointer (some ⟨n3, 0, none⟩)], 107, [.pointer (some ⟨(n3 + 1), 0, none⟩)]⟩, ⟨uO r.k, decide (r.rt = 0), 105, [.pointer (some ⟨n4, 0, none⟩)], 107, [.pointer (some ⟨(n4 + 1), 0, none⟩)]⟩, ⟨uO r.k, noop r.o, 77, [.pointer (some ⟨br, 0, none⟩)], 79, [.pointer (some ⟨br, 0, none⟩)]⟩, ⟨uI r.k, decide (r.im = 0), 111, [.pointer (some ⟨m6, 0, none⟩), .pointer (some ⟨(m6 + 1), 0, none⟩)], 113, [.pointer (some ⟨(m6 + 3), 0, none⟩), .pointer (some ⟨(m6 + 2), 0, none⟩)]⟩, ⟨uC r.k, decide (r.lm = 0), 119, [.pointer (some ⟨m7, 0, none⟩), .pointer (some ⟨(m7 + 1), 0, none⟩)], 121, [.pointer (some ⟨(m7 + 3), 0, none⟩), .pointer (some ⟨(m7 + 2), 0, none⟩)]⟩, ⟨uC r.k, decide (r.dm = 0), 123, [.pointer (some ⟨m8, 0, none⟩), .pointer (some ⟨(m8 + 1), 0, none⟩)], 125, [.pointer (some ⟨(m8 + 3), 0, none⟩), .pointer (some ⟨(m8 + 2), 0, none⟩)]⟩, ⟨uC r.k, decide (r.nx = 0), 105, [.pointer (some ⟨n9, 0, none⟩)], 107, [.pointer (some ⟨(n9 + 1), 0, none⟩)]⟩], he, hbel, hgf, hblk, rfl, ?_, ?_⟩
 ·intro x hx
  simp only [List.mem_cons, List.not_mem_nil, or_false] at hx
  rcases hx with rfl | rfl | rfl | rfl | rfl | rfl | rfl | rfl | rfl | rfl
  all_goals first | exact Or.inl ⟨_, rfl, Or.inl rfl⟩ | exact Or.inl ⟨_, rfl, Or.inr rfl⟩ | exact Or.inr ⟨_, _, rfl, Or.inl rfl⟩ | exact Or.inr ⟨_, _, rfl, Or.inr (Or.inl rfl)⟩ | exact Or.inr ⟨_, _, rfl, Or.inr (Or.inr rfl)⟩
 ·exact idx_cons ⟨_, rfl, rfl, rnum71 w' S p g lo _ br hx' b0.bs (hn _ (by have := b0.lo; omega)) hbb (hn br hbr)⟩ (idx_cons ⟨_, rfl, rfl, rnum72 w' S p g lo _ br hx' b1.bs (hn _ (by have := b1.lo; omega)) hbb (hn br hbr)⟩ (idx_cons ⟨_, rfl, rfl, rnum73 w' S p g lo _ br hx' b2.bs (hn _ (by have := b2.lo; omega)) hbb (hn br hbr)⟩ (idx_cons ⟨_, rfl, rfl, rnum74 w' S p g lo _ br hx' b3.bs (hn _ (by have := b3.lo; omega)) hbb (hn br hbr)⟩ (idx_cons ⟨_, rfl, rfl, rnum75 w' S p g lo _ br hx' b4.bs (hn _ (by have := b4.lo; omega)) hbb (hn br hbr)⟩ (idx_cons ⟨_, rfl, rfl, rop79 w' S p g lo br hx' hbb (hn br hbr)⟩ (idx_cons ⟨_, rfl, rfl, rlist84 w' S p g lo _ _ br hx' b6.bs (hn _ (by have := b6.lo; omega)) b6.bq (hn _ (by have := b6.lo; omega)) hbb (hn br hbr)⟩ (idx_cons ⟨_, rfl, rfl, rlist88 w' S p g lo _ _ br hx' b7.bs (hn _ (by have := b7.lo; omega)) b7.bq (hn _ (by have := b7.lo; omega)) hbb (hn br hbr)⟩ (idx_cons ⟨_, rfl, rfl, rlist92 w' S p g lo _ _ br hx' b8.bs (hn _ (by have := b8.lo; omega)) b8.bq (hn _ (by have := b8.lo; omega)) hbb (hn br hbr)⟩ (idx_cons ⟨_, rfl, rfl, rnum93 w' S p g lo _ br hx' b9.bs (hn _ (by have := b9.lo; omega)) hbb (hn br hbr)⟩ idx_nil)))))))))
def runS : List (Bool × Step) → RE → Bool → List Nat → RE × Bool × List Nat
 | [], r, ok, l => (r, ok, l)
 | m :: ms, r, ok, l => if m.1 then runS ms (m.2 r ok l).1 (m.2 r ok l).2.1 (m.2 r ok l).2.2 else runS ms r ok l
def rz (k : Int) : RV := ⟨k, 0, 0, 0, 0, 0, 0, ⟨0, 0, 0, none, 0, 0, []⟩, none, 0, 0, [], none, 0, 0, [], none, 0, 0, [], 0⟩
def readR (l : List Nat) : RE := (runS (fsteps (i64n (rB true l).1)) (rz (i64n (rB true l).1)).e (rB true l).2.1 (rB true l).2.2).1
theorem rz_In (k : Int) (hk : -9223372036854775808 ≤ k ∧ k ≤ 9223372036854775807) (w : World) (T : Nat → Prop) : (rz k).In w T :=
 ⟨hk.1, hk.2, (by show (0 : Nat) < _; decide), (by show (0 : Nat) < _; decide), (by show (0 : Nat) < _; decide), (by show (0 : Nat) < _; decide), (by show (0 : Nat) < _; decide), (by show (0 : Nat) < _; decide),
  ⟨RB.nil_, by show -9223372036854775808 ≤ (0 : Int); decide, by show (0 : Int) ≤ 9223372036854775807; decide, by show -9223372036854775808 ≤ (0 : Int); decide, by show (0 : Int) ≤ 9223372036854775807; decide, (by show (0 : Nat) < _; decide), Nat.le_refl _, Nat.zero_le _, fun _ => rfl⟩,
  ⟨rfl, (fun x hx => by cases hx), Nat.zero_le _, fun h => absurd h (Nat.lt_irrefl 0)⟩, ⟨rfl, (fun x hx => by cases hx), Nat.zero_le _, fun h => absurd h (Nat.lt_irrefl 0)⟩, ⟨rfl, (fun x hx => by cases hx), Nat.zero_le _, fun h => absurd h (Nat.lt_irrefl 0)⟩, (by show (0 : Nat) < _; decide)⟩
theorem rT_le (ok : Bool) (l : List Nat) : (rT ok l).2.2.length ≤ l.length := by
 show (leftO ok l _).length ≤ _
 unfold leftO
 split
 ·simp
 ·exact Nat.le_refl _
theorem rO_le (ok : Bool) (l : List Nat) : (rO ok l).2.2.length ≤ l.length := by
 have h1 := rB_le ok l
 have h2 := rI_le (rB ok l).2.1 (rB ok l).2.2
 have h3 := rI_le (rI (rB ok l).2.1 (rB ok l).2.2).2.1 (rI (rB ok l).2.1 (rB ok l).2.2).2.2
 have h4 := rT_le (rI (rI (rB ok l).2.1 (rB ok l).2.2).2.1 (rI (rB ok l).2.1 (rB ok l).2.2).2.2).2.1 (rI (rI (rB ok l).2.1 (rB ok l).2.2).2.1 (rI (rB ok l).2.1 (rB ok l).2.2).2.2).2.2
 show (rT (rI (rI (rB ok l).2.1 (rB ok l).2.2).2.1 (rI (rB ok l).2.1 (rB ok l).2.2).2.2).2.1 (rI (rI (rB ok l).2.1 (rB ok l).2.2).2.1 (rI (rB ok l).2.1 (rB ok l).2.2).2.2).2.2).2.2.length ≤ _
 omega
theorem rD_le (ok : Bool) (l : List Nat) : (rD ok l).2.2.length ≤ l.length := by
 have h1 := rI_le ok l
 have h2 := rI_le (rI ok l).2.1 (rI ok l).2.2
 show (rI (rI ok l).2.1 (rI ok l).2.2).2.2.length ≤ _
 omega
theorem rV_le (ok : Bool) (l : List Nat) : (rV ok l).2.2.length ≤ l.length := by
 obtain ⟨a, ha⟩ : ∃ a, a = rI ok l := ⟨_, rfl⟩
 obtain ⟨b, hb⟩ : ∃ b, b = rI a.2.1 a.2.2 := ⟨_, rfl⟩
 obtain ⟨c, hc⟩ : ∃ c, c = rI b.2.1 b.2.2 := ⟨_, rfl⟩
 have hv : (rV ok l).2 = (rB c.2.1 c.2.2).2 := by rw [hc, hb, ha]; rfl
 rw [hv]
 have l4 := rB_le c.2.1 c.2.2
 have l3 := rI_le b.2.1 b.2.2
 have l2 := rI_le a.2.1 a.2.2
 have l1 := rI_le ok l
 rw [← hc] at l3
 rw [← hb] at l2
 rw [← ha] at l1
 omega
theorem rLJ_le (n : Nat) (ok : Bool) (l : List Nat) : (rLJ n ok l).2.2.length ≤ l.length := by
 induction n generalizing ok l with
 | zero => exact Nat.le_refl _
 | succ n ih =>
   cases ok with
   | false => rw [rLJ_no]; exact Nat.le_refl _
   | true =>
     have h1 := ih (rJ true l).2.1 (rJ true l).2.2
     have h2 := rJ_le true l
     simp only [rLJ, if_true]
     omega
theorem rLJs_le (ok : Bool) (l : List Nat) : (rLJs ok l).2.2.length ≤ l.length := Nat.le_trans (rLJ_le _ _ _) (rI_le ok l)
theorem rLV_le (n : Nat) (ok : Bool) (l : List Nat) : (rLV n ok l).2.2.length ≤ l.length := by
 induction n generalizing ok l with
 | zero => exact Nat.le_refl _
 | succ n ih =>
   cases ok with
   | false => rw [rLV_no]; exact Nat.le_refl _
   | true =>
     have h1 := ih (rV true l).2.1 (rV true l).2.2
     have h2 := rV_le true l
     simp only [rLV, if_true]
     omega
theorem rLVs_le (ok : Bool) (l : List Nat) : (rLVs ok l).2.2.length ≤ l.length := Nat.le_trans (rLV_le _ _ _) (rI_le ok l)
theorem rLD_le (n : Nat) (ok : Bool) (l : List Nat) : (rLD n ok l).2.2.length ≤ l.length := by
 induction n generalizing ok l with
 | zero => exact Nat.le_refl _
 | succ n ih =>
   cases ok with
   | false => rw [rLD_no]; exact Nat.le_refl _
   | true =>
     have h1 := ih (rD true l).2.1 (rD true l).2.2
     have h2 := rD_le true l
     simp only [rLD, if_true]
     omega
theorem rLDs_le (ok : Bool) (l : List Nat) : (rLDs ok l).2.2.length ≤ l.length := Nat.le_trans (rLD_le _ _ _) (rI_le ok l)
theorem fsteps_le (k : Int) : ∀ m ∈ fsteps k, ∀ r ok l, (m.2 r ok l).2.2.length ≤ l.length := by
 intro m hm r ok l
 unfold fsteps at hm
 simp only [List.mem_cons, List.not_mem_nil, or_false] at hm
 rcases hm with rfl | rfl | rfl | rfl | rfl | rfl | rfl | rfl | rfl | rfl
 all_goals first | exact rI_le ok l | exact rO_le ok l | exact rLJs_le ok l | exact rLVs_le ok l | exact rLDs_le ok l
theorem runS_drop {ms : List (Bool × Step)} {q : Nat} {m : Bool × Step} (h : ms[q]? = some m) (r : RE) (ok : Bool) (l : List Nat) : runS (ms.drop q) r ok l = if m.1 then runS (ms.drop (q + 1)) (m.2 r ok l).1 (m.2 r ok l).2.1 (m.2 r ok l).2.2 else runS (ms.drop (q + 1)) r ok l := by
 have hq : q < ms.length := by
  rcases Nat.lt_or_ge q ms.length with h' | h'
  ·exact h'
  ·rw [List.getElem?_eq_none h'] at h; cases h
 have e : ms[q] = m := by rw [List.getElem?_eq_getElem hq] at h; injection h
 rw [List.drop_eq_getElem_cons hq, e]
 rfl
def ReadR (w : World) (l : List Nat) (e : Ending) (w' : World) : Prop := ∃ r : RV, e = .returned r.agg ∧ r.e = readR l ∧ r.In w' (fun b => w.heap.size ≤ b ∧ Zf w' b) ∧ Below w.heap.size w w'
set_option maxHeartbeats 16000000 in
theorem read_any (w : World) (T : Nat → Prop) (A : Option Addr) (n c : Nat) (l : List Nat) (hr : RB w T A n l) (hl : l.length ≤ 20000) : Calls Tryz.prog 34 #[.slice A n c] w (ReadR w l) := by
 obtain ⟨x1, o1, l1, e1⟩ : ∃ x1 o1 l1, rB true l = (x1, o1, l1) := ⟨_, _, _, rfl⟩
 have hl1 : l1.length ≤ 20000 := by
  have h2 := rB_le true l
  rw [e1] at h2
  exact Nat.le_trans h2 hl
 obtain ⟨k2, hk2⟩ : ∃ k2, k2 = i64n x1 := ⟨_, rfl⟩
 have hkb := i64n_in x1
 have g2 : IntKind.i64.wrap (x1 : Int) = k2 := by rw [hk2]; rfl
 rw [← hk2] at hkb
 obtain ⟨s, hs⟩ : ∃ s, s = readR l := ⟨_, rfl⟩
 have hs1 : s = (runS (fsteps k2) (rz k2).e o1 l1).1 := by rw [hs]; unfold readR; rw [e1, hk2]
 unfold ReadR
 rw [← hs]
 have HS := Lib.hid hs1
 have HKB := Lib.hid hkb
 have HL1 := Lib.hid hl1
 obtain ⟨W0, hW0⟩ : ∃ W0, w.alloc (.cells #[.int .i64 0, .int .u64 0, .int .u32 0, .int .u64 0, .int .u64 0, .int .u32 0, .int .u32 0, .int .i64 0, .int .i64 0, .int .u32 0, .slice none 0 0, .slice none 0 0, .slice none 0 0, .slice none 0 0, .int .u32 0] 31) = W0 := ⟨_, rfl⟩
 have HB0 : Hid (Blk W0 w.heap.size 31 #[.int .i64 0, .int .u64 0, .int .u32 0, .int .u64 0, .int .u64 0, .int .u32 0, .int .u32 0, .int .i64 0, .int .i64 0, .int .u32 0, .slice none 0 0, .slice none 0 0, .slice none 0 0, .slice none 0 0, .int .u32 0]) := Lib.hid (by rw [← hW0]; exact Blk.new w 31 _)
 have HL0 : Hid (Below w.heap.size w W0) := Lib.hid (by rw [← hW0]; exact (Below.refl _ _).alloc (Nat.le_refl _) _)
 have HSZ0 : Hid (W0.heap.size = w.heap.size + 1) := Lib.hid (by rw [← hW0]; simp)
 have hlen := hr.len
 have HNR := Lib.hid (newReader_any W0 T A n c l (hr.keep (Fr.of_below HL0.out No) fun _ _ hn => hn) (by omega))
 have H1 := Lib.hid (fun W S p (h : Rd W S p true l) => rB_any W S p true l h _ _ _ e1)
 clear hr hl hl1 e1 hs hs1 hkb hlen hk2
 go_enter Tryz.func34, Tryz.ntmps34
 go_wp2_with fail
 with_reducible refine HNR.out.mono ?_
 rintro e w1 ⟨p0, rfl, hr1, hb1⟩
 obtain ⟨p, hp⟩ : ∃ p, p = some p0 := ⟨_, rfl⟩
 rw [← hp] at hr1 ⊢
 obtain ⟨S, hSd⟩ : ∃ S : Nat → Prop, S = fun b => W0.heap.size ≤ b ∧ b < w1.heap.size := ⟨_, rfl⟩
 have hr1' : Rd w1 S p true l := by rw [hSd]; exact hr1.mono fun b hlt hb => ⟨hb, hlt⟩
 have HSB : Hid (∀ b, S b → W0.heap.size ≤ b ∧ b < w1.heap.size) := Lib.hid (by rw [hSd]; exact fun b hb => hb)
 have H1' := Lib.hid (H1.out _ _ _ hr1')
 have HB1 := Lib.hid hb1
 clear hr1 hr1' hb1 hSd hp
 go_wp2_with fail
 with_reducible refine H1'.out.mono ?_
 rintro e w2 ⟨rfl, hr2, hf2⟩
 obtain ⟨g, hg⟩ : ∃ g, g = w2.heap.size := ⟨_, rfl⟩
 obtain ⟨w3, hw3⟩ : ∃ w3, w2.alloc (.cells #[.int .i64 k2, .int .u64 0, .int .u32 0, .int .u64 0, .int .u64 0, .int .u32 0, .int .u32 0, .int .i64 0, .int .i64 0, .int .u32 0, .slice none 0 0, .slice none 0 0, .slice none 0 0, .slice none 0 0, .int .u32 0] 31) = w3 := ⟨_, rfl⟩
 have hbg : Blk w3 g 31 (rcs (rz k2)) := by rw [← hw3, hg]; exact Blk.new w2 31 _
 have hb02 : Below W0.heap.size W0 w2 := HB1.out.trans (hf2.below (fun b hb => (HSB.out b hb).1) HB1.out.size)
 have hb03 : Below W0.heap.size W0 w3 := by rw [← hw3]; exact hb02.alloc hb02.size _
 have hr3 : Rd w3 S p o1 l1 := by rw [← hw3]; exact hr2.keep ((Fr.refl w2 No).alloc _) (fun _ _ hn => hn)
 have hs3 : w3.heap.size = w2.heap.size + 1 := by rw [← hw3]; simp
 have hsx : SX w3 S g (w.heap.size + 1) := ⟨fun b hb => by have := (HSB.out b hb).2; have := hf2.size; omega, by omega, fun hs => by have := (HSB.out g hs).2; have := hf2.size; omega, by have := hb02.size; have := HSZ0.out; omega⟩
 have HFS := Lib.hid (fieldsR w3 S p g (w.heap.size + 1) (rz k2) No (rz_In k2 HKB.out w3 No) hbg hsx)
 have HR3 := Lib.hid hr3
 have HB3 := Lib.hid hb03
 have HBG := Lib.hid hbg
 have HSX := Lib.hid hsx
 have HGW := Lib.hid (show w.heap.size < g by have := hb02.size; have := HSZ0.out; omega)
 subst hg
 subst hw3
 clear hr2 hf2 hr3 hb02 hb03 hbg hs3 hsx
 go_wp2_with fail
 with_reducible refine HFS.out.mono ?_
 unfold FRd
 rintro e w4 ⟨gf, xs, rfl, hb4, hgf, hbf, hxl, hxc, hxs⟩
 have HX4 : Hid (SX w4 S w2.heap.size (w.heap.size + 1)) := Lib.hid ⟨fun b hb => Nat.lt_of_lt_of_le (HSX.out.hS b hb) hb4.size, Nat.lt_of_lt_of_le HSX.out.hg hb4.size, HSX.out.ng, Nat.le_trans HSX.out.lo hb4.size⟩
 have HS4 : Hid (ST w4 S p w2.heap.size (w.heap.size + 1) w4 o1 l1 (rz k2)) := Lib.hid ⟨HR3.out.keep (Fr.of_below hb4 No) (fun _ _ hn => hn), HBG.out.below hb4 HSX.out.hg, rz_In k2 HKB.out w4 _, Fr.refl _ _⟩
 have HGF : Hid (¬ (S gf ∨ gf = w2.heap.size)) := Lib.hid (fun h => by
  rcases h with h | h
  ·have := HSX.out.hS gf h; omega
  ·have := HSX.out.hg; omega)
 have HBF := Lib.hid hbf
 have HXL := Lib.hid hxl
 have HXC := Lib.hid hxc
 have HXS := Lib.hid hxs
 have HB4 := Lib.hid (HB3.out.trans (hb4.mono HB3.out.size))
 clear hb4 hgf hbf hxl hxc hxs
 go_wp2_with fail
 go_loopw [15] (fun i wr => ∃ (q : Nat) (o : Bool) (m : List Nat) (rv : RV), q ≤ 10 ∧ i = .int .i64 (q : Int) ∧ ST w4 S p w2.heap.size (w.heap.size + 1) wr o m rv ∧ s = (runS ((fsteps k2).drop q) rv.e o m).1 ∧ m.length ≤ 20000) (fun i _ => 10 - (intOf i).toNat)
 case atStart => exact ⟨0, o1, l1, rz k2, by omega, rfl, HS4.out, HS.out, HL1.out⟩
 case round =>
  obtain ⟨q, o, m, rv, hq, rfl, hst, hrs, hml⟩ := hrel
  have HRS := Lib.hid hrs
  have HML := Lib.hid hml
  by_cases hlt : q < 10
  ·obtain ⟨x, hx⟩ : ∃ x, xs[q]? = some x := ⟨xs[q]'(by have := HXL.out; omega), List.getElem?_eq_getElem _⟩
   obtain ⟨st, hm, hu, hwf⟩ := HXS.out q x hx
   have hcs := HXC.out x (List.mem_of_getElem? hx)
   obtain ⟨c0, c1, c2, c3⟩ := fv_cells (HBF.out.keep hst.fr HGF.out) hx
   have HM : Hid ((fsteps k2)[q]? = some st) := Lib.hid hm
   have HUM := Lib.hid hu
   obtain ⟨u, z, ff, cs, gg, gs⟩ := x
   simp only at c0 c1 c2 c3 hcs hwf HUM
   have hWi : IntKind.i64.wrap ((q : Int) + 1) = ((q + 1 : Nat) : Int) := by rw [IntWalk.i64_in _ (by omega)]; omega
   have hin : ((q : Int) < 10) := by omega
   have hdq : decide ((q : Int) < 10) = true := decide_eq_true (by omega)
   have hwq : IntKind.i64.wrap (q : Int) = (q : Int) := IntWalk.i64_in _ (by omega)
   rcases hcs with ⟨b, rfl, rfl | rfl⟩ | ⟨b, b', rfl, rfl | rfl | rfl⟩
   ·obtain ⟨wa, hwa⟩ : ∃ wa, wr.alloc (.cells #[.bool u, .bool z, .func (.func ff) #[] cs.toArray, .func (.func 107) #[] #[.pointer (some ⟨b, 0, none⟩)]] 87) = wa := ⟨_, rfl⟩
    have hbk : Blk wa wr.heap.size 87 #[.bool u, .bool z, .func (.func ff) #[] cs.toArray, .func (.func 107) #[] #[.pointer (some ⟨b, 0, none⟩)]] := by rw [← hwa]; exact Blk.new wr 87 _
    have hsa : ST w4 S p w2.heap.size (w.heap.size + 1) wa o m rv := by rw [← hwa]; exact hst.alloc _
    have d0 := hbk.cell 0
    have d1 := hbk.cell 1
    have d2 := hbk.cell 2
    have d3 := hbk.cell 3
    simp only [List.getElem?_toArray, List.getElem?_cons_zero, List.getElem?_cons_succ] at d0 d1 d2 d3
    have hcall := hwf wa o m rv hsa hml
    have HCL : Hid (Calls Tryz.prog 107 #[ptr p, .pointer (some ⟨b, 0, none⟩)] wa fun e w' => e = .returned (.tuple #[]) ∧ ∃ r', ST w4 S p w2.heap.size (w.heap.size + 1) w' (st.2 rv.e o m).2.1 (st.2 rv.e o m).2.2 r' ∧ r'.e = (st.2 rv.e o m).1) := Lib.hid hcall
    have HSA := Lib.hid hsa
    clear hst hx hm hu hwf hbk hcall hsa hrs hml
    cases u with
    | true =>
      go_wp2_with fail
      with_reducible refine HCL.out.mono ?_
      rintro e w5 ⟨rfl, r', hs5, he5⟩
      have HS5 := Lib.hid hs5
      have HE5 := Lib.hid he5
      clear hs5 he5
      go_wp2_with fail
      go_roundw
      case rel =>
       refine ⟨q + 1, _, _, r', by omega, by go_num, HS5.out, ?_, ?_⟩
       ·rw [HRS.out, runS_drop HM.out, ← HUM.out, if_pos rfl, HE5.out]
       ·exact Nat.le_trans (fsteps_le k2 st (List.mem_of_getElem? HM.out) _ _ _) HML.out
      case measure => simp [intOf]; omega
    | false =>
      go_wp2_with fail
      go_roundw
      case rel =>
       refine ⟨q + 1, o, m, rv, by omega, by go_num, HSA.out, ?_, HML.out⟩
       rw [HRS.out, runS_drop HM.out, ← HUM.out]
       simp
      case measure => simp [intOf]; omega
   ·obtain ⟨wa, hwa⟩ : ∃ wa, wr.alloc (.cells #[.bool u, .bool z, .func (.func ff) #[] cs.toArray, .func (.func 79) #[] #[.pointer (some ⟨b, 0, none⟩)]] 87) = wa := ⟨_, rfl⟩
    have hbk : Blk wa wr.heap.size 87 #[.bool u, .bool z, .func (.func ff) #[] cs.toArray, .func (.func 79) #[] #[.pointer (some ⟨b, 0, none⟩)]] := by rw [← hwa]; exact Blk.new wr 87 _
    have hsa : ST w4 S p w2.heap.size (w.heap.size + 1) wa o m rv := by rw [← hwa]; exact hst.alloc _
    have d0 := hbk.cell 0
    have d1 := hbk.cell 1
    have d2 := hbk.cell 2
    have d3 := hbk.cell 3
    simp only [List.getElem?_toArray, List.getElem?_cons_zero, List.getElem?_cons_succ] at d0 d1 d2 d3
    have hcall := hwf wa o m rv hsa hml
    have HCL : Hid (Calls Tryz.prog 79 #[ptr p, .pointer (some ⟨b, 0, none⟩)] wa fun e w' => e = .returned (.tuple #[]) ∧ ∃ r', ST w4 S p w2.heap.size (w.heap.size + 1) w' (st.2 rv.e o m).2.1 (st.2 rv.e o m).2.2 r' ∧ r'.e = (st.2 rv.e o m).1) := Lib.hid hcall
    have HSA := Lib.hid hsa
    clear hst hx hm hu hwf hbk hcall hsa hrs hml
    cases u with
    | true =>
      go_wp2_with fail
      with_reducible refine HCL.out.mono ?_
      rintro e w5 ⟨rfl, r', hs5, he5⟩
      have HS5 := Lib.hid hs5
      have HE5 := Lib.hid he5
      clear hs5 he5
      go_wp2_with fail
      go_roundw
      case rel =>
       refine ⟨q + 1, _, _, r', by omega, by go_num, HS5.out, ?_, ?_⟩
       ·rw [HRS.out, runS_drop HM.out, ← HUM.out, if_pos rfl, HE5.out]
       ·exact Nat.le_trans (fsteps_le k2 st (List.mem_of_getElem? HM.out) _ _ _) HML.out
      case measure => simp [intOf]; omega
    | false =>
      go_wp2_with fail
      go_roundw
      case rel =>
       refine ⟨q + 1, o, m, rv, by omega, by go_num, HSA.out, ?_, HML.out⟩
       rw [HRS.out, runS_drop HM.out, ← HUM.out]
       simp
      case measure => simp [intOf]; omega
   ·obtain ⟨wa, hwa⟩ : ∃ wa, wr.alloc (.cells #[.bool u, .bool z, .func (.func ff) #[] cs.toArray, .func (.func 113) #[] #[.pointer (some ⟨b, 0, none⟩), .pointer (some ⟨b', 0, none⟩)]] 87) = wa := ⟨_, rfl⟩
    have hbk : Blk wa wr.heap.size 87 #[.bool u, .bool z, .func (.func ff) #[] cs.toArray, .func (.func 113) #[] #[.pointer (some ⟨b, 0, none⟩), .pointer (some ⟨b', 0, none⟩)]] := by rw [← hwa]; exact Blk.new wr 87 _
    have hsa : ST w4 S p w2.heap.size (w.heap.size + 1) wa o m rv := by rw [← hwa]; exact hst.alloc _
    have d0 := hbk.cell 0
    have d1 := hbk.cell 1
    have d2 := hbk.cell 2
    have d3 := hbk.cell 3
    simp only [List.getElem?_toArray, List.getElem?_cons_zero, List.getElem?_cons_succ] at d0 d1 d2 d3
    have hcall := hwf wa o m rv hsa hml
    have HCL : Hid (Calls Tryz.prog 113 #[ptr p, .pointer (some ⟨b, 0, none⟩), .pointer (some ⟨b', 0, none⟩)] wa fun e w' => e = .returned (.tuple #[]) ∧ ∃ r', ST w4 S p w2.heap.size (w.heap.size + 1) w' (st.2 rv.e o m).2.1 (st.2 rv.e o m).2.2 r' ∧ r'.e = (st.2 rv.e o m).1) := Lib.hid hcall
    have HSA := Lib.hid hsa
    clear hst hx hm hu hwf hbk hcall hsa hrs hml
    cases u with
    | true =>
      go_wp2_with fail
      with_reducible refine HCL.out.mono ?_
      rintro e w5 ⟨rfl, r', hs5, he5⟩
      have HS5 := Lib.hid hs5
      have HE5 := Lib.hid he5
      clear hs5 he5
      go_wp2_with fail
      go_roundw
      case rel =>
       refine ⟨q + 1, _, _, r', by omega, by go_num, HS5.out, ?_, ?_⟩
       ·rw [HRS.out, runS_drop HM.out, ← HUM.out, if_pos rfl, HE5.out]
       ·exact Nat.le_trans (fsteps_le k2 st (List.mem_of_getElem? HM.out) _ _ _) HML.out
      case measure => simp [intOf]; omega
    | false =>
      go_wp2_with fail
      go_roundw
      case rel =>
       refine ⟨q + 1, o, m, rv, by omega, by go_num, HSA.out, ?_, HML.out⟩
       rw [HRS.out, runS_drop HM.out, ← HUM.out]
       simp
      case measure => simp [intOf]; omega
   ·obtain ⟨wa, hwa⟩ : ∃ wa, wr.alloc (.cells #[.bool u, .bool z, .func (.func ff) #[] cs.toArray, .func (.func 121) #[] #[.pointer (some ⟨b, 0, none⟩), .pointer (some ⟨b', 0, none⟩)]] 87) = wa := ⟨_, rfl⟩
    have hbk : Blk wa wr.heap.size 87 #[.bool u, .bool z, .func (.func ff) #[] cs.toArray, .func (.func 121) #[] #[.pointer (some ⟨b, 0, none⟩), .pointer (some ⟨b', 0, none⟩)]] := by rw [← hwa]; exact Blk.new wr 87 _
    have hsa : ST w4 S p w2.heap.size (w.heap.size + 1) wa o m rv := by rw [← hwa]; exact hst.alloc _
    have d0 := hbk.cell 0
    have d1 := hbk.cell 1
    have d2 := hbk.cell 2
    have d3 := hbk.cell 3
    simp only [List.getElem?_toArray, List.getElem?_cons_zero, List.getElem?_cons_succ] at d0 d1 d2 d3
    have hcall := hwf wa o m rv hsa hml
    have HCL : Hid (Calls Tryz.prog 121 #[ptr p, .pointer (some ⟨b, 0, none⟩), .pointer (some ⟨b', 0, none⟩)] wa fun e w' => e = .returned (.tuple #[]) ∧ ∃ r', ST w4 S p w2.heap.size (w.heap.size + 1) w' (st.2 rv.e o m).2.1 (st.2 rv.e o m).2.2 r' ∧ r'.e = (st.2 rv.e o m).1) := Lib.hid hcall
    have HSA := Lib.hid hsa
    clear hst hx hm hu hwf hbk hcall hsa hrs hml
    cases u with
    | true =>
      go_wp2_with fail
      with_reducible refine HCL.out.mono ?_
      rintro e w5 ⟨rfl, r', hs5, he5⟩
      have HS5 := Lib.hid hs5
      have HE5 := Lib.hid he5
      clear hs5 he5
      go_wp2_with fail
      go_roundw
      case rel =>
       refine ⟨q + 1, _, _, r', by omega, by go_num, HS5.out, ?_, ?_⟩
       ·rw [HRS.out, runS_drop HM.out, ← HUM.out, if_pos rfl, HE5.out]
       ·exact Nat.le_trans (fsteps_le k2 st (List.mem_of_getElem? HM.out) _ _ _) HML.out
      case measure => simp [intOf]; omega
    | false =>
      go_wp2_with fail
      go_roundw
      case rel =>
       refine ⟨q + 1, o, m, rv, by omega, by go_num, HSA.out, ?_, HML.out⟩
       rw [HRS.out, runS_drop HM.out, ← HUM.out]
       simp
      case measure => simp [intOf]; omega
   ·obtain ⟨wa, hwa⟩ : ∃ wa, wr.alloc (.cells #[.bool u, .bool z, .func (.func ff) #[] cs.toArray, .func (.func 125) #[] #[.pointer (some ⟨b, 0, none⟩), .pointer (some ⟨b', 0, none⟩)]] 87) = wa := ⟨_, rfl⟩
    have hbk : Blk wa wr.heap.size 87 #[.bool u, .bool z, .func (.func ff) #[] cs.toArray, .func (.func 125) #[] #[.pointer (some ⟨b, 0, none⟩), .pointer (some ⟨b', 0, none⟩)]] := by rw [← hwa]; exact Blk.new wr 87 _
    have hsa : ST w4 S p w2.heap.size (w.heap.size + 1) wa o m rv := by rw [← hwa]; exact hst.alloc _
    have d0 := hbk.cell 0
    have d1 := hbk.cell 1
    have d2 := hbk.cell 2
    have d3 := hbk.cell 3
    simp only [List.getElem?_toArray, List.getElem?_cons_zero, List.getElem?_cons_succ] at d0 d1 d2 d3
    have hcall := hwf wa o m rv hsa hml
    have HCL : Hid (Calls Tryz.prog 125 #[ptr p, .pointer (some ⟨b, 0, none⟩), .pointer (some ⟨b', 0, none⟩)] wa fun e w' => e = .returned (.tuple #[]) ∧ ∃ r', ST w4 S p w2.heap.size (w.heap.size + 1) w' (st.2 rv.e o m).2.1 (st.2 rv.e o m).2.2 r' ∧ r'.e = (st.2 rv.e o m).1) := Lib.hid hcall
    have HSA := Lib.hid hsa
    clear hst hx hm hu hwf hbk hcall hsa hrs hml
    cases u with
    | true =>
      go_wp2_with fail
      with_reducible refine HCL.out.mono ?_
      rintro e w5 ⟨rfl, r', hs5, he5⟩
      have HS5 := Lib.hid hs5
      have HE5 := Lib.hid he5
      clear hs5 he5
      go_wp2_with fail
      go_roundw
      case rel =>
       refine ⟨q + 1, _, _, r', by omega, by go_num, HS5.out, ?_, ?_⟩
       ·rw [HRS.out, runS_drop HM.out, ← HUM.out, if_pos rfl, HE5.out]
       ·exact Nat.le_trans (fsteps_le k2 st (List.mem_of_getElem? HM.out) _ _ _) HML.out
      case measure => simp [intOf]; omega
    | false =>
      go_wp2_with fail
      go_roundw
      case rel =>
       refine ⟨q + 1, o, m, rv, by omega, by go_num, HSA.out, ?_, HML.out⟩
       rw [HRS.out, runS_drop HM.out, ← HUM.out]
       simp
      case measure => simp [intOf]; omega
  ·have h1d : decide ((q : Int) < 10) = false := decide_eq_false (by omega)
   have h1d2 : decide (q < 10) = false := decide_eq_false hlt
   have HQ := Lib.hid (show q = 10 by omega)
   obtain ⟨y0, y1, y2, y3, y4, y5, y6, y7, y8, y9, y10, y11, y12, y13, y14⟩ := rcs_cells hst.bx
   have HST := Lib.hid hst
   have HE0 := Lib.hid ((HB0.out.below HB4.out HB0.out.lt).keep hst.fr (fun h => by
    rcases h with h | h
    ·have := (HSB.out _ h).1; have := HSZ0.out; omega
    ·have := HGW.out; omega))
   clear hst hrs hml
   obtain ⟨k, s, t, a, b, pg, rt, ⟨ok, os, ot, oA, om, oc, od⟩, iA, im, ic, il, lA, lm, lc, ll, dA, dm, dc, dl, nx⟩ := rv
   simp only at y0 y1 y2 y3 y4 y5 y6 y7 y8 y9 y10 y11 y12 y13 y14
   have E0 : Hid (Blk _ (w.heap.size) 31 #[.int .i64 0, .int .u64 0, .int .u32 0, .int .u64 0, .int .u64 0, .int .u32 0, .int .u32 0, .int .i64 0, .int .i64 0, .int .u32 0, .slice none 0 0, .slice none 0 0, .slice none 0 0, .slice none 0 0, .int .u32 0]) := HE0
   have a0 := E0.out.cell 0
   have f0 := E0.out.frozen 0
   have E1 : Hid (Blk _ (w.heap.size) 31 #[.int .i64 k, .int .u64 0, .int .u32 0, .int .u64 0, .int .u64 0, .int .u32 0, .int .u32 0, .int .i64 0, .int .i64 0, .int .u32 0, .slice none 0 0, .slice none 0 0, .slice none 0 0, .slice none 0 0, .int .u32 0]) := Lib.hid (E0.out.set_ 0 (.int .i64 k))
   have a1 := E1.out.cell 1
   have f1 := E1.out.frozen 1
   have E2 : Hid (Blk _ (w.heap.size) 31 #[.int .i64 k, .int .u64 (s : Int), .int .u32 0, .int .u64 0, .int .u64 0, .int .u32 0, .int .u32 0, .int .i64 0, .int .i64 0, .int .u32 0, .slice none 0 0, .slice none 0 0, .slice none 0 0, .slice none 0 0, .int .u32 0]) := Lib.hid (E1.out.set_ 1 (.int .u64 (s : Int)))
   have a2 := E2.out.cell 2
   have f2 := E2.out.frozen 2
   have E3 : Hid (Blk _ (w.heap.size) 31 #[.int .i64 k, .int .u64 (s : Int), .int .u32 (t : Int), .int .u64 0, .int .u64 0, .int .u32 0, .int .u32 0, .int .i64 0, .int .i64 0, .int .u32 0, .slice none 0 0, .slice none 0 0, .slice none 0 0, .slice none 0 0, .int .u32 0]) := Lib.hid (E2.out.set_ 2 (.int .u32 (t : Int)))
   have a3 := E3.out.cell 3
   have f3 := E3.out.frozen 3
   have E4 : Hid (Blk _ (w.heap.size) 31 #[.int .i64 k, .int .u64 (s : Int), .int .u32 (t : Int), .int .u64 (a : Int), .int .u64 0, .int .u32 0, .int .u32 0, .int .i64 0, .int .i64 0, .int .u32 0, .slice none 0 0, .slice none 0 0, .slice none 0 0, .slice none 0 0, .int .u32 0]) := Lib.hid (E3.out.set_ 3 (.int .u64 (a : Int)))
   have a4 := E4.out.cell 4
   have f4 := E4.out.frozen 4
   have E5 : Hid (Blk _ (w.heap.size) 31 #[.int .i64 k, .int .u64 (s : Int), .int .u32 (t : Int), .int .u64 (a : Int), .int .u64 (b : Int), .int .u32 0, .int .u32 0, .int .i64 0, .int .i64 0, .int .u32 0, .slice none 0 0, .slice none 0 0, .slice none 0 0, .slice none 0 0, .int .u32 0]) := Lib.hid (E4.out.set_ 4 (.int .u64 (b : Int)))
   have a5 := E5.out.cell 5
   have f5 := E5.out.frozen 5
   have E6 : Hid (Blk _ (w.heap.size) 31 #[.int .i64 k, .int .u64 (s : Int), .int .u32 (t : Int), .int .u64 (a : Int), .int .u64 (b : Int), .int .u32 (pg : Int), .int .u32 0, .int .i64 0, .int .i64 0, .int .u32 0, .slice none 0 0, .slice none 0 0, .slice none 0 0, .slice none 0 0, .int .u32 0]) := Lib.hid (E5.out.set_ 5 (.int .u32 (pg : Int)))
   have a6 := E6.out.cell 6
   have f6 := E6.out.frozen 6
   have E7 : Hid (Blk _ (w.heap.size) 31 #[.int .i64 k, .int .u64 (s : Int), .int .u32 (t : Int), .int .u64 (a : Int), .int .u64 (b : Int), .int .u32 (pg : Int), .int .u32 (rt : Int), .int .i64 0, .int .i64 0, .int .u32 0, .slice none 0 0, .slice none 0 0, .slice none 0 0, .slice none 0 0, .int .u32 0]) := Lib.hid (E6.out.set_ 6 (.int .u32 (rt : Int)))
   have a7 := E7.out.cell 7
   have f7 := E7.out.frozen 7
   have E8 : Hid (Blk _ (w.heap.size) 31 #[.int .i64 k, .int .u64 (s : Int), .int .u32 (t : Int), .int .u64 (a : Int), .int .u64 (b : Int), .int .u32 (pg : Int), .int .u32 (rt : Int), .int .i64 ok, .int .i64 0, .int .u32 0, .slice none 0 0, .slice none 0 0, .slice none 0 0, .slice none 0 0, .int .u32 0]) := Lib.hid (E7.out.set_ 7 (.int .i64 ok))
   have a8 := E8.out.cell 8
   have f8 := E8.out.frozen 8
   have E9 : Hid (Blk _ (w.heap.size) 31 #[.int .i64 k, .int .u64 (s : Int), .int .u32 (t : Int), .int .u64 (a : Int), .int .u64 (b : Int), .int .u32 (pg : Int), .int .u32 (rt : Int), .int .i64 ok, .int .i64 os, .int .u32 0, .slice none 0 0, .slice none 0 0, .slice none 0 0, .slice none 0 0, .int .u32 0]) := Lib.hid (E8.out.set_ 8 (.int .i64 os))
   have a9 := E9.out.cell 9
   have f9 := E9.out.frozen 9
   have E10 : Hid (Blk _ (w.heap.size) 31 #[.int .i64 k, .int .u64 (s : Int), .int .u32 (t : Int), .int .u64 (a : Int), .int .u64 (b : Int), .int .u32 (pg : Int), .int .u32 (rt : Int), .int .i64 ok, .int .i64 os, .int .u32 (ot : Int), .slice none 0 0, .slice none 0 0, .slice none 0 0, .slice none 0 0, .int .u32 0]) := Lib.hid (E9.out.set_ 9 (.int .u32 (ot : Int)))
   have a10 := E10.out.cell 10
   have f10 := E10.out.frozen 10
   have E11 : Hid (Blk _ (w.heap.size) 31 #[.int .i64 k, .int .u64 (s : Int), .int .u32 (t : Int), .int .u64 (a : Int), .int .u64 (b : Int), .int .u32 (pg : Int), .int .u32 (rt : Int), .int .i64 ok, .int .i64 os, .int .u32 (ot : Int), .slice oA om oc, .slice none 0 0, .slice none 0 0, .slice none 0 0, .int .u32 0]) := Lib.hid (E10.out.set_ 10 (.slice oA om oc))
   have a11 := E11.out.cell 11
   have f11 := E11.out.frozen 11
   have E12 : Hid (Blk _ (w.heap.size) 31 #[.int .i64 k, .int .u64 (s : Int), .int .u32 (t : Int), .int .u64 (a : Int), .int .u64 (b : Int), .int .u32 (pg : Int), .int .u32 (rt : Int), .int .i64 ok, .int .i64 os, .int .u32 (ot : Int), .slice oA om oc, .slice iA im ic, .slice none 0 0, .slice none 0 0, .int .u32 0]) := Lib.hid (E11.out.set_ 11 (.slice iA im ic))
   have a12 := E12.out.cell 12
   have f12 := E12.out.frozen 12
   have E13 : Hid (Blk _ (w.heap.size) 31 #[.int .i64 k, .int .u64 (s : Int), .int .u32 (t : Int), .int .u64 (a : Int), .int .u64 (b : Int), .int .u32 (pg : Int), .int .u32 (rt : Int), .int .i64 ok, .int .i64 os, .int .u32 (ot : Int), .slice oA om oc, .slice iA im ic, .slice lA lm lc, .slice none 0 0, .int .u32 0]) := Lib.hid (E12.out.set_ 12 (.slice lA lm lc))
   have a13 := E13.out.cell 13
   have f13 := E13.out.frozen 13
   have E14 : Hid (Blk _ (w.heap.size) 31 #[.int .i64 k, .int .u64 (s : Int), .int .u32 (t : Int), .int .u64 (a : Int), .int .u64 (b : Int), .int .u32 (pg : Int), .int .u32 (rt : Int), .int .i64 ok, .int .i64 os, .int .u32 (ot : Int), .slice oA om oc, .slice iA im ic, .slice lA lm lc, .slice dA dm dc, .int .u32 0]) := Lib.hid (E13.out.set_ 13 (.slice dA dm dc))
   have a14 := E14.out.cell 14
   have f14 := E14.out.frozen 14
   have E15 : Hid (Blk _ (w.heap.size) 31 #[.int .i64 k, .int .u64 (s : Int), .int .u32 (t : Int), .int .u64 (a : Int), .int .u64 (b : Int), .int .u32 (pg : Int), .int .u32 (rt : Int), .int .i64 ok, .int .i64 os, .int .u32 (ot : Int), .slice oA om oc, .slice iA im ic, .slice lA lm lc, .slice dA dm dc, .int .u32 (nx : Int)]) := Lib.hid (E14.out.set_ 14 (.int .u32 (nx : Int)))
   have b0 := E1.out.cell 0
   have b1 := E2.out.cell 1
   have b2 := E3.out.cell 2
   have b3 := E4.out.cell 3
   have b4 := E5.out.cell 4
   have b5 := E6.out.cell 5
   have b6 := E7.out.cell 6
   have b7 := E8.out.cell 7
   have b8 := E9.out.cell 8
   have b9 := E10.out.cell 9
   have b10 := E11.out.cell 10
   have b11 := E12.out.cell 11
   have b12 := E13.out.cell 12
   have b13 := E14.out.cell 13
   have b14 := E15.out.cell 14
   simp only [List.getElem?_toArray, List.getElem?_cons_zero, List.getElem?_cons_succ] at a0 b0 a1 b1 a2 b2 a3 b3 a4 b4 a5 b5 a6 b6 a7 b7 a8 b8 a9 b9 a10 b10 a11 b11 a12 b12 a13 b13 a14 b14
   have HFR := Lib.hid ((((((((((((((((Fr.refl wr (fun b => b = w.heap.size)).setCell (p := ⟨w.heap.size, 0, none⟩) (Or.inl rfl) (.int .i64 k)).setCell (p := ⟨w.heap.size, 1, none⟩) (Or.inl rfl) (.int .u64 (s : Int))).setCell (p := ⟨w.heap.size, 2, none⟩) (Or.inl rfl) (.int .u32 (t : Int))).setCell (p := ⟨w.heap.size, 3, none⟩) (Or.inl rfl) (.int .u64 (a : Int))).setCell (p := ⟨w.heap.size, 4, none⟩) (Or.inl rfl) (.int .u64 (b : Int))).setCell (p := ⟨w.heap.size, 5, none⟩) (Or.inl rfl) (.int .u32 (pg : Int))).setCell (p := ⟨w.heap.size, 6, none⟩) (Or.inl rfl) (.int .u32 (rt : Int))).setCell (p := ⟨w.heap.size, 7, none⟩) (Or.inl rfl) (.int .i64 ok)).setCell (p := ⟨w.heap.size, 8, none⟩) (Or.inl rfl) (.int .i64 os)).setCell (p := ⟨w.heap.size, 9, none⟩) (Or.inl rfl) (.int .u32 (ot : Int))).setCell (p := ⟨w.heap.size, 10, none⟩) (Or.inl rfl) (.slice oA om oc)).setCell (p := ⟨w.heap.size, 11, none⟩) (Or.inl rfl) (.slice iA im ic)).setCell (p := ⟨w.heap.size, 12, none⟩) (Or.inl rfl) (.slice lA lm lc)).setCell (p := ⟨w.heap.size, 13, none⟩) (Or.inl rfl) (.slice dA dm dc)).setCell (p := ⟨w.heap.size, 14, none⟩) (Or.inl rfl) (.int .u32 (nx : Int)))
   go_wp2_with fail
   refine bodyPost_ret (by simp [results, Tryz.results34, go_sem, b0, b1, b2, b3, b4, b5, b6, b7, b8, b9, b10, b11, b12, b13, b14]; try rfl) rfl ?_
   refine ⟨⟨k, s, t, a, b, pg, rt, ⟨ok, os, ot, oA, om, oc, od⟩, iA, im, ic, il, lA, lm, lc, ll, dA, dm, dc, dl, nx⟩, rfl, ?_, ?_, ?_⟩
   ·rw [HRS.out, HQ.out]; rfl
   ·exact ((HST.out.inn.mono (T' := fun b => w.heap.size < b ∧ Zf wr b) fun b _ hb => ⟨hb.1.1, hb.2⟩).up HFR.out (fun b hb he => by omega)).mono fun b _ hb => ⟨Nat.le_of_lt hb.1, hb.2⟩
   ·exact (HL0.out.trans (HB4.out.mono HL0.out.size)).trans ((HST.out.fr.below (fun b hb => by
     rcases hb with hb | hb
     ·have := (HSB.out b hb).1; have := HSZ0.out; omega
     ·have := HGW.out; omega) (by have := HB4.out.size; have := HL0.out.size; omega)).trans (HFR.out.below (fun b hb => by omega) (by have := HST.out.fr.size; have := HB4.out.size; have := HL0.out.size; omega)))
end Go.Proofs.YtdhgbkibbileiaaGreat
