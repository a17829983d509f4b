/-
STAGE 8: ask.
-/
import Derived.Test.YtcajidlekfkjlaaND
import Derived.Test.YtcajidlekfkjlaaNC
namespace Go.Proofs.Ytcajidlekfkjlaa
open Go.RowKit

/-- what pages are told by: nothing, or a tree's Get -/
def gV : Option TV → Value
  | none => .nilFunc
  | some t => .func (.func 9) #[t.agg] #[]
set_option maxRecDepth 100000 in
theorem gV_some (t : TV) : gV (some t) = .func (.func 9) #[t.agg] #[] := rfl
set_option maxRecDepth 100000 in
theorem gV_none : gV none = .nilFunc := rfl
def GIn (w : World) (S : Nat → Prop) (G : Option TV) : Prop := ∀ t, G = some t → t.In w S ∧ ∀ x ∈ t.l, Few x.p
set_option maxRecDepth 100000 in
theorem GIn.keep {w w' : World} {S U : Nat → Prop} {G : Option TV} (h : GIn w S G) (hf : Fr w w' U) (hS : ∀ b, S b → ¬ U b) : GIn w' S G := fun t e => ⟨(h t e).1.keep hf hS, (h t e).2⟩
set_option maxRecDepth 100000 in
theorem GIn.mono {w : World} {S S' : Nat → Prop} {G : Option TV} (h : GIn w S G) (hS : ∀ b, b < w.heap.size → S b → S' b) : GIn w S' G := fun t e => ⟨(h t e).1.mono hS, (h t e).2⟩
set_option maxRecDepth 100000 in
theorem GIn.below {w w' : World} {S : Nat → Prop} {G : Option TV} (h : GIn w S G) (hb : Below w.heap.size w w') : GIn w' S G := fun t e => ⟨(h t e).1.below hb, (h t e).2⟩
set_option maxRecDepth 100000 in
theorem GIn.none (w : World) (S : Nat → Prop) : GIn w S none := fun _ e => by cases e
/-- is a page a right one? -/
def okP (p : PV) : Bool := may p.k p.es && (decide (p.k = 2) || (decide (p.k = 3) && decide (0 < p.n)))
def askM (G : Option TV) (n : Nat) : Except Int PV :=
  if n = 0 then .error 5 else match G with
  | none => .error 1
  | some t => if (t.get n).2 ≠ 0 then .error (t.get n).2 else if okP (t.get n).1 then .ok (t.get n).1 else .error 5
set_option maxRecDepth 100000 in
theorem ask_ok_inv {G : Option TV} {n : Nat} {p : PV} (h : askM G n = .ok p) : ∃ t, G = some t ∧ n ≠ 0 ∧ t.get n = (p, 0) ∧ okP p = true := by
  unfold askM at h
  split at h
  · cases h
  · rename_i hn
    split at h
    · cases h
    · rename_i t
      split at h
      · cases h
      · rename_i h0
        split at h
        · rename_i hp
          injection h with h
          subst h
          exact ⟨t, rfl, hn, by rw [← Decidable.not_not.1 h0], hp⟩
        · cases h
set_option maxRecDepth 100000 in
theorem ask_no_inv {G : Option TV} {n : Nat} {c : Int} (h : askM G n = .error c) : (n = 0 ∧ c = 5) ∨ (n ≠ 0 ∧ G = none ∧ c = 1) ∨ ∃ t, G = some t ∧ n ≠ 0 ∧ (((t.get n).2 = c ∧ c ≠ 0) ∨ ((t.get n).2 = 0 ∧ okP (t.get n).1 = false ∧ c = 5)) := by
  unfold askM at h
  split at h
  · rename_i hn; injection h with h; exact Or.inl ⟨hn, h.symm⟩
  · rename_i hn
    split at h
    · injection h with h; exact Or.inr (Or.inl ⟨hn, rfl, h.symm⟩)
    · rename_i t
      refine Or.inr (Or.inr ⟨t, rfl, hn, ?_⟩)
      split at h
      · rename_i h0; injection h with h; exact Or.inl ⟨h, h ▸ h0⟩
      · rename_i h0
        split at h
        · cases h
        · rename_i hp
          injection h with h
          exact Or.inr ⟨Decidable.not_not.1 h0, by simpa using hp, h.symm⟩
set_option maxRecDepth 100000 in
theorem neq80n : ∀ w : World, (binOp .neq 59 .nilFunc .nilFunc).run Try.prog w = .ok (.bool false) w := fun _ => by kernel_rfl
set_option maxRecDepth 100000 in
theorem neq80 (v : Value) : ∀ w : World, (binOp .neq 59 (.func (.func 9) #[v] #[]) .nilFunc).run Try.prog w = .ok (.bool true) w := fun _ => by kernel_rfl
set_option maxRecDepth 100000 in
theorem ask_in {w : World} {S : Nat → Prop} {G : Option TV} (h : GIn w S G) {n : Nat} {p : PV} (hp : askM G n = .ok p) : p.In w S S ∧ Few p := by
  obtain ⟨t, rfl, _, hg, _⟩ := ask_ok_inv hp
  have h1 := (h t rfl).1
  have := TV.get_in h1 n
  rw [hg] at this
  refine ⟨this, ?_⟩
  unfold TV.get at hg
  split at hg
  · rename_i h2; injection hg with _ h3; exact absurd h3 h2.1
  · split at hg
    · rename_i x hx
      injection hg with hg
      exact hg ▸ (h t rfl).2 x (List.mem_of_find?_eq_some hx)
    · injection hg with _ h3; cases h3
set_option maxHeartbeats 1000000 in
set_option maxRecDepth 100000 in
theorem ask_zero (G : Option TV) (w : World) : Calls Try.prog 47 #[gV G, .int .u32 0] w fun e w' => e = Flt 5 ∧ Below w.heap.size w w' := by
  obtain ⟨g, hg⟩ : ∃ g, g = gV G := ⟨_, rfl⟩
  rw [← hg]
  clear hg
  unfold Flt
  have HM := fun W => must_no 5 W
  unfold Flt at HM
  go_enter Try.func47, Try.ntmps47
  go_wp2_with (go_at_call 23; refine (HM _).mono ?_; rintro e w1 ⟨rfl, rfl⟩)
  exact ⟨rfl, rfl, (Below.refl _ _).alloc (Nat.le_refl _) _⟩
set_option maxHeartbeats 1000000 in
set_option maxRecDepth 100000 in
theorem ask_none (n : Nat) (hn : n ≠ 0) (w : World) : Calls Try.prog 47 #[gV none, .int .u32 (n : Int)] w fun e w' => e = Flt 1 ∧ Below w.heap.size w w' := by
  have d1 : ((n : Int) != 0) = true := bne_iff_ne.2 (by omega)
  unfold Flt gV
  have HM := fun W => must_no 1 W
  have HY := fun W => must_yes 5 W
  have he := neq80n
  unfold Flt at HM
  clear hn
  go_enter Try.func47, Try.ntmps47
  go_wp2_with fail
  refine (HY _).mono ?_
  rintro e w1 ⟨rfl, rfl⟩
  go_wp2_with fail
  refine (HM _).mono ?_
  rintro e w1 ⟨rfl, rfl⟩
  go_wp2_with fail
  exact ⟨rfl, rfl, (Below.refl _ _).alloc (Nat.le_refl _) _⟩
set_option maxHeartbeats 2000000 in
set_option maxRecDepth 100000 in
theorem ask_bad (t : TV) (n : Nat) (hn : n ≠ 0) (w : World) (S : Nat → Prop) (h : t.In w S) (c : Int) (hc : (t.get n).2 = c) (h0 : c ≠ 0) : Calls Try.prog 47 #[gV (some t), .int .u32 (n : Int)] w fun e w' => e = Flt c ∧ Below w.heap.size w w' := by
  have d1 : ((n : Int) != 0) = true := bne_iff_ne.2 (by omega)
  have d2 : (c == 0) = false := beq_false_of_ne h0
  have HG := fun W (hW : Below w.heap.size w W) => get_any t n W S (h.below hW)
  have hin := (TV.get_in h n).all
  obtain ⟨tv, htv⟩ : ∃ tv, tv = t.agg := ⟨_, rfl⟩
  obtain ⟨p, hp⟩ : ∃ p, p = (t.get n).1 := ⟨_, rfl⟩
  rw [gV_some, ← htv]
  rw [← htv, ← hp, hc] at HG
  rw [← hp] at hin 
  have HMAY : True := trivial
  have HGH := Lib.hid HG
  have HMH := Lib.hid HMAY
  unfold Flt
  have HM := fun W => must_no c W
  unfold Flt at HM
  clear h0
  have HY := fun W => must_yes 5 W
  have HY1 := fun W => must_yes 1 W
  have he := neq80 tv
  obtain ⟨k, s, x, A, m, cc, l⟩ := p
  clear hn htv hp hc h HG HMAY hin
  go_enter Try.func47, Try.ntmps47
  go_wp2_with fail
  refine (HY _).mono ?_
  rintro e w1 ⟨rfl, rfl⟩
  go_wp2_with fail
  refine (HY1 _).mono ?_
  rintro e w1 ⟨rfl, rfl⟩
  go_wp2_with fail
  refine (HGH.out _ ((Below.refl _ _).alloc (Nat.le_refl _) _)).mono ?_
  rintro e w1 ⟨rfl, hb⟩
  have HB := Lib.hid (((Below.refl w.heap.size w).alloc (Nat.le_refl _) (.cells #[.int .i64 0, .int .u64 0, .int .u32 0, .slice none 0 0] 51)).trans (hb.mono (by simp)))
  have HB' := Lib.hid hb
  clear hb
  unfold PV.agg
  go_wp2_with fail
  refine (HM _).mono ?_
  rintro e w2 ⟨rfl, rfl⟩
  go_wp2_with fail
  exact ⟨rfl, rfl, HB.out.alloc (HB.out.size) _⟩

set_option maxHeartbeats 2000000 in
set_option maxRecDepth 100000 in
theorem ask_not (t : TV) (n : Nat) (hn : n ≠ 0) (w : World) (S : Nat → Prop) (h : t.In w S) (hc : (t.get n).2 = 0) (hf : Few (t.get n).1) (ho : may (t.get n).1.k (t.get n).1.es = false) : Calls Try.prog 47 #[gV (some t), .int .u32 (n : Int)] w fun e w' => e = Flt 5 ∧ Below w.heap.size w w' := by
  have d1 : ((n : Int) != 0) = true := bne_iff_ne.2 (by omega)
  have HG := fun W (hW : Below w.heap.size w W) => get_any t n W S (h.below hW)
  have hin := (TV.get_in h n).all
  obtain ⟨tv, htv⟩ : ∃ tv, tv = t.agg := ⟨_, rfl⟩
  obtain ⟨p, hp⟩ : ∃ p, p = (t.get n).1 := ⟨_, rfl⟩
  rw [gV_some, ← htv]
  rw [← htv, ← hp, hc] at HG
  rw [← hp] at hin hf ho
  have HMAY := fun W (hW : Below w.heap.size w W) => may_any p W (hin.below hW) hf
  have hcr := hin.r.2.2.1
  rw [ho] at HMAY
  have HM := fun W => must_no 5 W
  have HY := fun W => must_yes 5 W
  have HY1 := fun W => must_yes 1 W
  have HY0 := fun W => must_yes 0 W
  have he := neq80 tv
  unfold Flt at HM
  try unfold Flt
  obtain ⟨k, s, x, A, m, cc, l⟩ := p
  unfold PV.agg at HG HMAY
  have HGH := Lib.hid HG
  have HMH := Lib.hid HMAY
  clear hn htv hp hc h HG HMAY hin hf
  clear ho hcr
  go_enter Try.func47, Try.ntmps47
  go_wp2_with fail
  refine (HY _).mono ?_
  rintro e w1 ⟨rfl, rfl⟩
  go_wp2_with fail
  refine (HY1 _).mono ?_
  rintro e w1 ⟨rfl, rfl⟩
  go_wp2_with fail
  refine (HGH.out _ ((Below.refl _ _).alloc (Nat.le_refl _) _)).mono ?_
  rintro e w1 ⟨rfl, hb⟩
  have HB := Lib.hid (((Below.refl w.heap.size w).alloc (Nat.le_refl _) (.cells #[.int .i64 0, .int .u64 0, .int .u32 0, .slice none 0 0] 51)).trans (hb.mono (by simp)))
  have HB' := Lib.hid ((Blk.new w 51 #[.int .i64 0, .int .u64 0, .int .u32 0, .slice none 0 0]).below hb (by simp))
  clear hb
  go_wp2_with fail
  obtain ⟨w2, hw2⟩ : ∃ W, W = w1.alloc (.cells #[.int .i64 k, .int .u64 (s : Int), .int .u32 (x : Int), .slice A m cc] 51) := ⟨_, rfl⟩
  rw [← hw2]
  have b2 : Blk w2 w1.heap.size 51 #[.int .i64 k, .int .u64 (s : Int), .int .u32 (x : Int), .slice A m cc] := by rw [hw2]; exact Blk.new w1 51 _
  have HB2 : Hid (Below w.heap.size w w2) := by rw [hw2]; exact Lib.hid (HB.out.alloc HB.out.size _)
  have hbr : Blk w2 w.heap.size 51 #[.int .i64 0, .int .u64 0, .int .u32 0, .slice none 0 0] := by rw [hw2]; exact HB'.out.alloc _
  clear hw2
  refine (HY0 _).mono ?_
  rintro e w3 ⟨rfl, rfl⟩
  have c0 := b2.cell 0
  have c1 := b2.cell 1
  have c2 := b2.cell 2
  have c3 := b2.cell 3
  have HBB := Lib.hid b2
  have HBR := Lib.hid hbr
  clear b2 hbr
  go_wp2_with fail
  refine (HMH.out _ HB2.out).mono ?_
  rintro e w3 ⟨rfl, hb⟩
  have b3 := HBB.out.below hb HBB.out.lt
  have r3 := HBR.out.below hb HBR.out.lt
  have HB3 := Lib.hid (HB2.out.trans (hb.mono HB2.out.size))
  clear hb c0 c1 c2 c3
  have c0 := b3.cell 0
  have c1 := b3.cell 1
  have c2 := b3.cell 2
  have c3 := b3.cell 3
  have e0 := r3.cell 0
  have e1 := r3.cell 1
  have e2 := r3.cell 2
  have e3 := r3.cell 3
  have f0 := r3.frozen 0
  have f1 := r3.frozen 1
  have f2 := r3.frozen 2
  have f3 := r3.frozen 3
  have HR3 := Lib.hid r3
  have HBQ := Lib.hid b3
  clear b3 r3
  go_wp2_with fail
  refine (HM _).mono ?_
  rintro e w2 ⟨rfl, rfl⟩
  go_wp2_with fail
  exact ⟨rfl, rfl, HB3.out⟩
set_option maxHeartbeats 2000000 in
set_option maxRecDepth 100000 in
theorem ask_heap (t : TV) (n : Nat) (hn : n ≠ 0) (w : World) (S : Nat → Prop) (h : t.In w S) (hc : (t.get n).2 = 0) (hf : Few (t.get n).1) (ho : may (t.get n).1.k (t.get n).1.es = true) (h2 : (t.get n).1.k ≠ 2) (h3 : (t.get n).1.k ≠ 3) : Calls Try.prog 47 #[gV (some t), .int .u32 (n : Int)] w fun e w' => e = Flt 5 ∧ Below w.heap.size w w' := by
  have d1 : ((n : Int) != 0) = true := bne_iff_ne.2 (by omega)
  have HG := fun W (hW : Below w.heap.size w W) => get_any t n W S (h.below hW)
  have hin := (TV.get_in h n).all
  obtain ⟨tv, htv⟩ : ∃ tv, tv = t.agg := ⟨_, rfl⟩
  obtain ⟨p, hp⟩ : ∃ p, p = (t.get n).1 := ⟨_, rfl⟩
  rw [gV_some, ← htv]
  rw [← htv, ← hp, hc] at HG
  rw [← hp] at hin hf ho
  have HMAY := fun W (hW : Below w.heap.size w W) => may_any p W (hin.below hW) hf
  have hcr := hin.r.2.2.1
  rw [ho] at HMAY
  rw [← hp] at h2 h3
  have d2 : (p.k == 2) = false := beq_false_of_ne h2
  have d3 : (p.k == 3) = false := beq_false_of_ne h3
  have HM := fun W => must_no 5 W
  have HY := fun W => must_yes 5 W
  have HY1 := fun W => must_yes 1 W
  have HY0 := fun W => must_yes 0 W
  have he := neq80 tv
  unfold Flt at HM
  try unfold Flt
  obtain ⟨k, s, x, A, m, cc, l⟩ := p
  unfold PV.agg at HG HMAY
  have HGH := Lib.hid HG
  have HMH := Lib.hid HMAY
  clear hn htv hp hc h HG HMAY hin hf
  clear ho hcr h2 h3
  dsimp only at d2 d3
  go_enter Try.func47, Try.ntmps47
  go_wp2_with fail
  refine (HY _).mono ?_
  rintro e w1 ⟨rfl, rfl⟩
  go_wp2_with fail
  refine (HY1 _).mono ?_
  rintro e w1 ⟨rfl, rfl⟩
  go_wp2_with fail
  refine (HGH.out _ ((Below.refl _ _).alloc (Nat.le_refl _) _)).mono ?_
  rintro e w1 ⟨rfl, hb⟩
  have HB := Lib.hid (((Below.refl w.heap.size w).alloc (Nat.le_refl _) (.cells #[.int .i64 0, .int .u64 0, .int .u32 0, .slice none 0 0] 51)).trans (hb.mono (by simp)))
  have HB' := Lib.hid ((Blk.new w 51 #[.int .i64 0, .int .u64 0, .int .u32 0, .slice none 0 0]).below hb (by simp))
  clear hb
  go_wp2_with fail
  obtain ⟨w2, hw2⟩ : ∃ W, W = w1.alloc (.cells #[.int .i64 k, .int .u64 (s : Int), .int .u32 (x : Int), .slice A m cc] 51) := ⟨_, rfl⟩
  rw [← hw2]
  have b2 : Blk w2 w1.heap.size 51 #[.int .i64 k, .int .u64 (s : Int), .int .u32 (x : Int), .slice A m cc] := by rw [hw2]; exact Blk.new w1 51 _
  have HB2 : Hid (Below w.heap.size w w2) := by rw [hw2]; exact Lib.hid (HB.out.alloc HB.out.size _)
  have hbr : Blk w2 w.heap.size 51 #[.int .i64 0, .int .u64 0, .int .u32 0, .slice none 0 0] := by rw [hw2]; exact HB'.out.alloc _
  clear hw2
  refine (HY0 _).mono ?_
  rintro e w3 ⟨rfl, rfl⟩
  have c0 := b2.cell 0
  have c1 := b2.cell 1
  have c2 := b2.cell 2
  have c3 := b2.cell 3
  have HBB := Lib.hid b2
  have HBR := Lib.hid hbr
  clear b2 hbr
  go_wp2_with fail
  refine (HMH.out _ HB2.out).mono ?_
  rintro e w3 ⟨rfl, hb⟩
  have b3 := HBB.out.below hb HBB.out.lt
  have r3 := HBR.out.below hb HBR.out.lt
  have HB3 := Lib.hid (HB2.out.trans (hb.mono HB2.out.size))
  clear hb c0 c1 c2 c3
  have c0 := b3.cell 0
  have c1 := b3.cell 1
  have c2 := b3.cell 2
  have c3 := b3.cell 3
  have e0 := r3.cell 0
  have e1 := r3.cell 1
  have e2 := r3.cell 2
  have e3 := r3.cell 3
  have f0 := r3.frozen 0
  have f1 := r3.frozen 1
  have f2 := r3.frozen 2
  have f3 := r3.frozen 3
  have HR3 := Lib.hid r3
  have HBQ := Lib.hid b3
  clear b3 r3
  go_wp2_with fail
  refine (HY _).mono ?_
  rintro e w2 ⟨rfl, rfl⟩
  go_wp2_with fail
  refine (HM _).mono ?_
  rintro e w2 ⟨rfl, rfl⟩
  go_wp2_with fail
  exact ⟨rfl, rfl, HB3.out⟩
set_option maxHeartbeats 2000000 in
set_option maxRecDepth 100000 in
theorem ask_empty (t : TV) (n : Nat) (hn : n ≠ 0) (w : World) (S : Nat → Prop) (h : t.In w S) (hc : (t.get n).2 = 0) (hf : Few (t.get n).1) (ho : may (t.get n).1.k (t.get n).1.es = true) (h3 : (t.get n).1.k = 3) (h0 : (t.get n).1.n = 0) : Calls Try.prog 47 #[gV (some t), .int .u32 (n : Int)] w fun e w' => e = Flt 5 ∧ Below w.heap.size w w' := by
  have d1 : ((n : Int) != 0) = true := bne_iff_ne.2 (by omega)
  have HG := fun W (hW : Below w.heap.size w W) => get_any t n W S (h.below hW)
  have hin := (TV.get_in h n).all
  obtain ⟨tv, htv⟩ : ∃ tv, tv = t.agg := ⟨_, rfl⟩
  obtain ⟨p, hp⟩ : ∃ p, p = (t.get n).1 := ⟨_, rfl⟩
  rw [gV_some, ← htv]
  rw [← htv, ← hp, hc] at HG
  rw [← hp] at hin hf ho
  have HMAY := fun W (hW : Below w.heap.size w W) => may_any p W (hin.below hW) hf
  have hcr := hin.r.2.2.1
  rw [ho] at HMAY
  rw [← hp] at h3 h0
  have d2 : (p.k == 2) = false := by rw [h3]; rfl
  have d3 : (p.k == 3) = true := by rw [h3]; rfl
  have d4 : decide ((p.n : Int) > 0) = false := by rw [h0]; rfl
  have d5 : decide (0 < p.n) = false := by rw [h0]; rfl
  have HM := fun W => must_no 5 W
  have HY := fun W => must_yes 5 W
  have HY1 := fun W => must_yes 1 W
  have HY0 := fun W => must_yes 0 W
  have he := neq80 tv
  unfold Flt at HM
  try unfold Flt
  obtain ⟨k, s, x, A, m, cc, l⟩ := p
  unfold PV.agg at HG HMAY
  have HGH := Lib.hid HG
  have HMH := Lib.hid HMAY
  clear hn htv hp hc h HG HMAY hin hf
  dsimp only at d2 d3 d4 d5
  clear ho hcr h3 h0
  go_enter Try.func47, Try.ntmps47
  go_wp2_with fail
  refine (HY _).mono ?_
  rintro e w1 ⟨rfl, rfl⟩
  go_wp2_with fail
  refine (HY1 _).mono ?_
  rintro e w1 ⟨rfl, rfl⟩
  go_wp2_with fail
  refine (HGH.out _ ((Below.refl _ _).alloc (Nat.le_refl _) _)).mono ?_
  rintro e w1 ⟨rfl, hb⟩
  have HB := Lib.hid (((Below.refl w.heap.size w).alloc (Nat.le_refl _) (.cells #[.int .i64 0, .int .u64 0, .int .u32 0, .slice none 0 0] 51)).trans (hb.mono (by simp)))
  have HB' := Lib.hid ((Blk.new w 51 #[.int .i64 0, .int .u64 0, .int .u32 0, .slice none 0 0]).below hb (by simp))
  clear hb
  go_wp2_with fail
  obtain ⟨w2, hw2⟩ : ∃ W, W = w1.alloc (.cells #[.int .i64 k, .int .u64 (s : Int), .int .u32 (x : Int), .slice A m cc] 51) := ⟨_, rfl⟩
  rw [← hw2]
  have b2 : Blk w2 w1.heap.size 51 #[.int .i64 k, .int .u64 (s : Int), .int .u32 (x : Int), .slice A m cc] := by rw [hw2]; exact Blk.new w1 51 _
  have HB2 : Hid (Below w.heap.size w w2) := by rw [hw2]; exact Lib.hid (HB.out.alloc HB.out.size _)
  have hbr : Blk w2 w.heap.size 51 #[.int .i64 0, .int .u64 0, .int .u32 0, .slice none 0 0] := by rw [hw2]; exact HB'.out.alloc _
  clear hw2
  refine (HY0 _).mono ?_
  rintro e w3 ⟨rfl, rfl⟩
  have c0 := b2.cell 0
  have c1 := b2.cell 1
  have c2 := b2.cell 2
  have c3 := b2.cell 3
  have HBB := Lib.hid b2
  have HBR := Lib.hid hbr
  clear b2 hbr
  go_wp2_with fail
  refine (HMH.out _ HB2.out).mono ?_
  rintro e w3 ⟨rfl, hb⟩
  have b3 := HBB.out.below hb HBB.out.lt
  have r3 := HBR.out.below hb HBR.out.lt
  have HB3 := Lib.hid (HB2.out.trans (hb.mono HB2.out.size))
  clear hb c0 c1 c2 c3
  have c0 := b3.cell 0
  have c1 := b3.cell 1
  have c2 := b3.cell 2
  have c3 := b3.cell 3
  have e0 := r3.cell 0
  have e1 := r3.cell 1
  have e2 := r3.cell 2
  have e3 := r3.cell 3
  have f0 := r3.frozen 0
  have f1 := r3.frozen 1
  have f2 := r3.frozen 2
  have f3 := r3.frozen 3
  have HR3 := Lib.hid r3
  have HBQ := Lib.hid b3
  clear b3 r3
  go_wp2_with fail
  refine (HY _).mono ?_
  rintro e w2 ⟨rfl, rfl⟩
  go_wp2_with fail
  refine (HM _).mono ?_
  rintro e w2 ⟨rfl, rfl⟩
  go_wp2_with fail
  exact ⟨rfl, rfl, HB3.out⟩
set_option maxHeartbeats 2000000 in
set_option maxRecDepth 100000 in
theorem ask_leaf (t : TV) (n : Nat) (hn : n ≠ 0) (w : World) (S : Nat → Prop) (h : t.In w S) (hc : (t.get n).2 = 0) (hf : Few (t.get n).1) (ho : may (t.get n).1.k (t.get n).1.es = true) (h2 : (t.get n).1.k = 2) : Calls Try.prog 47 #[gV (some t), .int .u32 (n : Int)] w fun e w' => e = .returned (t.get n).1.agg ∧ Below w.heap.size w w' := by
  have d1 : ((n : Int) != 0) = true := bne_iff_ne.2 (by omega)
  have HG := fun W (hW : Below w.heap.size w W) => get_any t n W S (h.below hW)
  have hin := (TV.get_in h n).all
  obtain ⟨tv, htv⟩ : ∃ tv, tv = t.agg := ⟨_, rfl⟩
  obtain ⟨p, hp⟩ : ∃ p, p = (t.get n).1 := ⟨_, rfl⟩
  rw [gV_some, ← htv]
  rw [← htv, ← hp, hc] at HG
  rw [← hp] at hin hf ho
  have HMAY := fun W (hW : Below w.heap.size w W) => may_any p W (hin.below hW) hf
  have hcr := hin.r.2.2.1
  rw [ho] at HMAY
  rw [← hp] at h2
  rw [← hp]
  have d2 : (p.k == 2) = true := by rw [h2]; rfl
  clear h2
  have HM := fun W => must_no 5 W
  have HY := fun W => must_yes 5 W
  have HY1 := fun W => must_yes 1 W
  have HY0 := fun W => must_yes 0 W
  have he := neq80 tv
  unfold Flt at HM
  try unfold Flt
  obtain ⟨k, s, x, A, m, cc, l⟩ := p
  unfold PV.agg at HG HMAY
  have HGH := Lib.hid HG
  have HMH := Lib.hid HMAY
  clear hn htv hp hc h HG HMAY hin hf
  dsimp only at d2
  clear ho hcr
  go_enter Try.func47, Try.ntmps47
  go_wp2_with fail
  refine (HY _).mono ?_
  rintro e w1 ⟨rfl, rfl⟩
  go_wp2_with fail
  refine (HY1 _).mono ?_
  rintro e w1 ⟨rfl, rfl⟩
  go_wp2_with fail
  refine (HGH.out _ ((Below.refl _ _).alloc (Nat.le_refl _) _)).mono ?_
  rintro e w1 ⟨rfl, hb⟩
  have HB := Lib.hid (((Below.refl w.heap.size w).alloc (Nat.le_refl _) (.cells #[.int .i64 0, .int .u64 0, .int .u32 0, .slice none 0 0] 51)).trans (hb.mono (by simp)))
  have HB' := Lib.hid ((Blk.new w 51 #[.int .i64 0, .int .u64 0, .int .u32 0, .slice none 0 0]).below hb (by simp))
  clear hb
  go_wp2_with fail
  obtain ⟨w2, hw2⟩ : ∃ W, W = w1.alloc (.cells #[.int .i64 k, .int .u64 (s : Int), .int .u32 (x : Int), .slice A m cc] 51) := ⟨_, rfl⟩
  rw [← hw2]
  have b2 : Blk w2 w1.heap.size 51 #[.int .i64 k, .int .u64 (s : Int), .int .u32 (x : Int), .slice A m cc] := by rw [hw2]; exact Blk.new w1 51 _
  have HB2 : Hid (Below w.heap.size w w2) := by rw [hw2]; exact Lib.hid (HB.out.alloc HB.out.size _)
  have hbr : Blk w2 w.heap.size 51 #[.int .i64 0, .int .u64 0, .int .u32 0, .slice none 0 0] := by rw [hw2]; exact HB'.out.alloc _
  clear hw2
  refine (HY0 _).mono ?_
  rintro e w3 ⟨rfl, rfl⟩
  have c0 := b2.cell 0
  have c1 := b2.cell 1
  have c2 := b2.cell 2
  have c3 := b2.cell 3
  have HBB := Lib.hid b2
  have HBR := Lib.hid hbr
  clear b2 hbr
  go_wp2_with fail
  refine (HMH.out _ HB2.out).mono ?_
  rintro e w3 ⟨rfl, hb⟩
  have b3 := HBB.out.below hb HBB.out.lt
  have r3 := HBR.out.below hb HBR.out.lt
  have HB3 := Lib.hid (HB2.out.trans (hb.mono HB2.out.size))
  clear hb c0 c1 c2 c3
  have c0 := b3.cell 0
  have c1 := b3.cell 1
  have c2 := b3.cell 2
  have c3 := b3.cell 3
  have e0 := r3.cell 0
  have e1 := r3.cell 1
  have e2 := r3.cell 2
  have e3 := r3.cell 3
  have f0 := r3.frozen 0
  have f1 := r3.frozen 1
  have f2 := r3.frozen 2
  have f3 := r3.frozen 3
  have HR3 := Lib.hid r3
  have HBQ := Lib.hid b3
  clear b3 r3
  go_wp2_with fail
  refine (HY _).mono ?_
  rintro e w2 ⟨rfl, rfl⟩
  go_wp2_with fail
  refine (HY _).mono ?_
  rintro e w2 ⟨rfl, rfl⟩
  go_wp2_with fail
  refine bodyPost_ret (v := .agg #[.int .i64 k, .int .u64 (s : Int), .int .u32 (x : Int), .slice A m cc]) (by simp [results, Try.results47, go_sem, e0, e1, e2, e3]) rfl ⟨rfl, ?_⟩
  exact (((HB3.out.setCell (p := ⟨w.heap.size, 0, none⟩) (Nat.le_refl _) _).setCell (p := ⟨w.heap.size, 1, none⟩) (Nat.le_refl _) _).setCell (p := ⟨w.heap.size, 2, none⟩) (Nat.le_refl _) _).setCell (p := ⟨w.heap.size, 3, none⟩) (Nat.le_refl _) _
set_option maxHeartbeats 2000000 in
set_option maxRecDepth 100000 in
theorem ask_inner (t : TV) (n : Nat) (hn : n ≠ 0) (w : World) (S : Nat → Prop) (h : t.In w S) (hc : (t.get n).2 = 0) (hf : Few (t.get n).1) (ho : may (t.get n).1.k (t.get n).1.es = true) (h3 : (t.get n).1.k = 3) (h0 : 0 < (t.get n).1.n) : Calls Try.prog 47 #[gV (some t), .int .u32 (n : Int)] w fun e w' => e = .returned (t.get n).1.agg ∧ Below w.heap.size w w' := by
  have d1 : ((n : Int) != 0) = true := bne_iff_ne.2 (by omega)
  have HG := fun W (hW : Below w.heap.size w W) => get_any t n W S (h.below hW)
  have hin := (TV.get_in h n).all
  obtain ⟨tv, htv⟩ : ∃ tv, tv = t.agg := ⟨_, rfl⟩
  obtain ⟨p, hp⟩ : ∃ p, p = (t.get n).1 := ⟨_, rfl⟩
  rw [gV_some, ← htv]
  rw [← htv, ← hp, hc] at HG
  rw [← hp] at hin hf ho
  have HMAY := fun W (hW : Below w.heap.size w W) => may_any p W (hin.below hW) hf
  have hcr := hin.r.2.2.1
  rw [ho] at HMAY
  rw [← hp] at h3 h0
  rw [← hp]
  have d2 : (p.k == 2) = false := by rw [h3]; rfl
  have d3 : (p.k == 3) = true := by rw [h3]; rfl
  have d4 : decide ((p.n : Int) > 0) = true := decide_eq_true (by omega)
  have d5 : decide (0 < p.n) = true := decide_eq_true h0
  have d6 : 0 < p.n := h0
  clear h3 h0
  have HM := fun W => must_no 5 W
  have HY := fun W => must_yes 5 W
  have HY1 := fun W => must_yes 1 W
  have HY0 := fun W => must_yes 0 W
  have he := neq80 tv
  unfold Flt at HM
  try unfold Flt
  obtain ⟨k, s, x, A, m, cc, l⟩ := p
  unfold PV.agg at HG HMAY
  have HGH := Lib.hid HG
  have HMH := Lib.hid HMAY
  clear hn htv hp hc h HG HMAY hin hf
  dsimp only at d2 d3 d4 d5 d6
  clear ho hcr
  go_enter Try.func47, Try.ntmps47
  go_wp2_with fail
  refine (HY _).mono ?_
  rintro e w1 ⟨rfl, rfl⟩
  go_wp2_with fail
  refine (HY1 _).mono ?_
  rintro e w1 ⟨rfl, rfl⟩
  go_wp2_with fail
  refine (HGH.out _ ((Below.refl _ _).alloc (Nat.le_refl _) _)).mono ?_
  rintro e w1 ⟨rfl, hb⟩
  have HB := Lib.hid (((Below.refl w.heap.size w).alloc (Nat.le_refl _) (.cells #[.int .i64 0, .int .u64 0, .int .u32 0, .slice none 0 0] 51)).trans (hb.mono (by simp)))
  have HB' := Lib.hid ((Blk.new w 51 #[.int .i64 0, .int .u64 0, .int .u32 0, .slice none 0 0]).below hb (by simp))
  clear hb
  go_wp2_with fail
  obtain ⟨w2, hw2⟩ : ∃ W, W = w1.alloc (.cells #[.int .i64 k, .int .u64 (s : Int), .int .u32 (x : Int), .slice A m cc] 51) := ⟨_, rfl⟩
  rw [← hw2]
  have b2 : Blk w2 w1.heap.size 51 #[.int .i64 k, .int .u64 (s : Int), .int .u32 (x : Int), .slice A m cc] := by rw [hw2]; exact Blk.new w1 51 _
  have HB2 : Hid (Below w.heap.size w w2) := by rw [hw2]; exact Lib.hid (HB.out.alloc HB.out.size _)
  have hbr : Blk w2 w.heap.size 51 #[.int .i64 0, .int .u64 0, .int .u32 0, .slice none 0 0] := by rw [hw2]; exact HB'.out.alloc _
  clear hw2
  refine (HY0 _).mono ?_
  rintro e w3 ⟨rfl, rfl⟩
  have c0 := b2.cell 0
  have c1 := b2.cell 1
  have c2 := b2.cell 2
  have c3 := b2.cell 3
  have HBB := Lib.hid b2
  have HBR := Lib.hid hbr
  clear b2 hbr
  go_wp2_with fail
  refine (HMH.out _ HB2.out).mono ?_
  rintro e w3 ⟨rfl, hb⟩
  have b3 := HBB.out.below hb HBB.out.lt
  have r3 := HBR.out.below hb HBR.out.lt
  have HB3 := Lib.hid (HB2.out.trans (hb.mono HB2.out.size))
  clear hb c0 c1 c2 c3
  have c0 := b3.cell 0
  have c1 := b3.cell 1
  have c2 := b3.cell 2
  have c3 := b3.cell 3
  have e0 := r3.cell 0
  have e1 := r3.cell 1
  have e2 := r3.cell 2
  have e3 := r3.cell 3
  have f0 := r3.frozen 0
  have f1 := r3.frozen 1
  have f2 := r3.frozen 2
  have f3 := r3.frozen 3
  have HR3 := Lib.hid r3
  have HBQ := Lib.hid b3
  clear b3 r3
  go_wp2_with fail
  refine (HY _).mono ?_
  rintro e w2 ⟨rfl, rfl⟩
  go_wp2_with fail
  refine (HY _).mono ?_
  rintro e w2 ⟨rfl, rfl⟩
  go_wp2_with fail
  refine bodyPost_ret (v := .agg #[.int .i64 k, .int .u64 (s : Int), .int .u32 (x : Int), .slice A m cc]) (by simp [results, Try.results47, go_sem, e0, e1, e2, e3]) rfl ⟨rfl, ?_⟩
  exact (((HB3.out.setCell (p := ⟨w.heap.size, 0, none⟩) (Nat.le_refl _) _).setCell (p := ⟨w.heap.size, 1, none⟩) (Nat.le_refl _) _).setCell (p := ⟨w.heap.size, 2, none⟩) (Nat.le_refl _) _).setCell (p := ⟨w.heap.size, 3, none⟩) (Nat.le_refl _) _
set_option maxRecDepth 100000 in
theorem ask_few {t : TV} (hf : ∀ x ∈ t.l, Few x.p) (n : Nat) : Few (t.get n).1 := by
  unfold TV.get
  split
  · exact ⟨Nat.zero_le _, by simp [PV.zero]⟩
  · split
    · rename_i x hx
      exact hf x (List.mem_of_find?_eq_some hx)
    · exact ⟨Nat.zero_le _, by simp [PV.zero]⟩
set_option maxRecDepth 100000 in
theorem ask_ok {G : Option TV} {n : Nat} {w : World} {S : Nat → Prop} (h : GIn w S G) {p : PV} (hp : askM G n = .ok p) : Calls Try.prog 47 #[gV G, .int .u32 (n : Int)] w fun e w' => e = .returned p.agg ∧ Below w.heap.size w w' := by
  obtain ⟨t, rfl, hn, hg, ho⟩ := ask_ok_inv hp
  obtain ⟨h1, h2⟩ := h t rfl
  have hf := ask_few h2 n
  have hc : (t.get n).2 = 0 := by rw [hg]
  unfold okP at ho
  have e : p = (t.get n).1 := by rw [hg]
  subst e
  simp only [Bool.and_eq_true, Bool.or_eq_true, decide_eq_true_eq] at ho
  obtain ⟨hm, hk | ⟨hk, h0⟩⟩ := ho
  · exact ask_leaf t n hn w S h1 hc hf hm hk
  · exact ask_inner t n hn w S h1 hc hf hm hk h0
set_option maxRecDepth 100000 in
theorem ask_no {G : Option TV} {n : Nat} {w : World} {S : Nat → Prop} (h : GIn w S G) {c : Int} (hp : askM G n = .error c) : Calls Try.prog 47 #[gV G, .int .u32 (n : Int)] w fun e w' => e = Flt c ∧ Below w.heap.size w w' := by
  rcases ask_no_inv hp with ⟨rfl, rfl⟩ | ⟨hn, rfl, rfl⟩ | ⟨t, rfl, hn, hh⟩
  · exact ask_zero G w
  · exact ask_none n hn w
  · obtain ⟨h1, h2⟩ := h t rfl
    have hf := ask_few h2 n
    rcases hh with ⟨hc, h0⟩ | ⟨hc, ho, rfl⟩
    · exact ask_bad t n hn w S h1 c hc h0
    · unfold okP at ho
      by_cases hm : may (t.get n).1.k (t.get n).1.es = true
      · rw [hm, Bool.true_and] at ho
        simp only [Bool.or_eq_false_iff, decide_eq_false_iff_not, Bool.and_eq_false_iff] at ho
        obtain ⟨h2', h3⟩ := ho
        by_cases hk : (t.get n).1.k = 3
        · exact ask_empty t n hn w S h1 hc hf hm hk (by rcases h3 with h3 | h3; exact absurd hk h3; omega)
        · exact ask_heap t n hn w S h1 hc hf hm h2' hk
      · exact ask_not t n hn w S h1 hc hf (by simpa using hm)
end Go.Proofs.Ytcajidlekfkjlaa
