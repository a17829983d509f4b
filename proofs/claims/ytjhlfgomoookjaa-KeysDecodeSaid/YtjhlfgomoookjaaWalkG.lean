/-
  THE WALKS OF cutValue and Decode.
-/
import Derived.Test.YtjhlfgomoookjaaWalkF
namespace Go.Proofs.Ytjhlfgomoookjaa
open Go.RowKit Go.Sort
attribute [local go_sem high] run_eqv run_neqv run_eqs

/-- the block of the result, as it is made -/
def Zero (w : World) (r : Nat) : Prop := Blk w r 34 #[.int .i64 0, .int .i64 0, .string ⟨#[]⟩]
theorem Zero.new (w : World) : Zero (w.alloc (.cells #[.int .i64 0, .int .i64 0, .string ⟨#[]⟩] 34)) w.heap.size := Blk.new w 34 _
theorem Zero.facts {w : World} {r : Nat} (h : Zero w r) : (w.cell? ⟨r, 0, none⟩ = some (.int .i64 0) ∧ w.cell? ⟨r, 1, none⟩ = some (.int .i64 0) ∧ w.cell? ⟨r, 2, none⟩ = some (.string ⟨#[]⟩)) ∧ (w.frozen? ⟨r, 0, none⟩ = false ∧ w.frozen? ⟨r, 1, none⟩ = false ∧ w.frozen? ⟨r, 2, none⟩ = false) :=
  ⟨⟨Blk.cell h 0, Blk.cell h 1, Blk.cell h 2⟩, Blk.frozen h 0, Blk.frozen h 1, Blk.frozen h 2⟩
theorem out3 {w w1 : World} {gp gs q r : Nat} {s : ByteArray} {a b c : Value} (hr : w.heap.size ≤ r) (hc : Cut w1 gp gs s q) (h1 : gp < w.heap.size) (h2 : gs < w.heap.size) (hf : Cf gp w w1) :
    Cut (((w1.setCell ⟨r, 0, none⟩ a).setCell ⟨r, 1, none⟩ b).setCell ⟨r, 2, none⟩ c) gp gs s q ∧ Cf gp w (((w1.setCell ⟨r, 0, none⟩ a).setCell ⟨r, 1, none⟩ b).setCell ⟨r, 2, none⟩ c) := by
  have n1 : gp ≠ r := by omega
  have n2 : gs ≠ r := by omega
  refine ⟨⟨((hc.1.far (p := ⟨r, 0, none⟩) n1 a).far (p := ⟨r, 1, none⟩) n1 b).far (p := ⟨r, 2, none⟩) n1 c, ((hc.2.1.far (p := ⟨r, 0, none⟩) n2 a).far (p := ⟨r, 1, none⟩) n2 b).far (p := ⟨r, 2, none⟩) n2 c, hc.2.2⟩, ?_⟩
  exact ((Fr.setCell hf (p := ⟨r, 0, none⟩) (Or.inr hr) a).setCell (p := ⟨r, 1, none⟩) (Or.inr hr) b).setCell (p := ⟨r, 2, none⟩) (Or.inr hr) c
/-- what cutValue answers -/
def ValueOut (w : World) (gp gs : Nat) (s : ByteArray) (p m : Nat) (e : Ending) (w' : World) : Prop :=
  Cf gp w w' ∧ ((∃ v r q, un2 (m :: (sb s).drop p) = some (v, r) ∧ e = .returned (.tuple #[.agg #[.int .i64 v.k, .int .i64 v.n, .string v.s], .bool true]) ∧ Cut w' gp gs s q ∧ r = (sb s).drop q) ∨
    (un2 (m :: (sb s).drop p) = none ∧ ∃ v : V, e = .returned (.tuple #[.agg #[.int .i64 v.k, .int .i64 v.n, .string v.s], .bool false])))
theorem un2_1 (l : List Nat) : un2 (1 :: l) = some (⟨0, 0, ⟨#[]⟩⟩, l) := by simp [un2, un1, V.may, may, seq_refl]
theorem un2_2 (l : List Nat) : un2 (2 :: l) = some (⟨3, 0, ⟨#[]⟩⟩, l) := by simp [un2, un1, V.may, may, seq_refl]
theorem un2_3 (l : List Nat) : un2 (3 :: l) = some (⟨3, 1, ⟨#[]⟩⟩, l) := by simp [un2, un1, V.may, may, seq_refl]
theorem un2_4 (l : List Nat) : un2 (4 :: l) = if 8 ≤ l.length then some (⟨1, (val (l.take 8) : Int) - 9223372036854775808, ⟨#[]⟩⟩, l.drop 8) else none := by
  by_cases h : 8 ≤ l.length <;> simp [un2, un1, V.may, may, seq_refl, h]
theorem un2_5 (l : List Nat) : un2 (5 :: l) = match unT l with | some (t, r) => if t.length ≤ 64 then some (⟨2, 0, bs t⟩, r) else none | none => none := by
  cases h : unT l with
  | none => simp [un2, un1, h]
  | some z =>
    obtain ⟨t, r⟩ := z
    by_cases h2 : t.length ≤ 64 <;> simp [un2, un1, h, V.may, may, bs_size, h2]
theorem un2_x {m : Nat} (h1 : m ≠ 1) (h2 : m ≠ 2) (h3 : m ≠ 3) (h4 : m ≠ 4) (h5 : m ≠ 5) (l : List Nat) : un2 (m :: l) = none := by simp [un2, un1, h1, h2, h3, h4, h5]

set_option maxRecDepth 100000 in
set_option maxHeartbeats 1000000 in
theorem cv1 (gp gs : Nat) (s : ByteArray) (p : Nat) (w : World) (h : Cut w gp gs s p) : Calls Try.prog 27 #[cutter gp gs, .int .u8 1] w (ValueOut w gp gs s p 1) := by
  have H := Lib.hid h
  unfold cutter
  clear h
  go_enter Try.func27, Try.ntmps27
  go_wp2
  refine bodyPost_ret (v := .tuple #[.agg #[.int .i64 0, .int .i64 0, .string ⟨#[]⟩], .bool true]) (by simp [results, Try.results27, go_sem]) rfl ?_
  exact ⟨Fr.alloc (Fr.refl w _) _, Or.inl ⟨_, _, p, un2_1 _, rfl, H.out.alloc _, rfl⟩⟩
set_option maxRecDepth 100000 in
set_option maxHeartbeats 1000000 in
theorem cv2 (gp gs : Nat) (s : ByteArray) (p : Nat) (w : World) (h : Cut w gp gs s p) : Calls Try.prog 27 #[cutter gp gs, .int .u8 2] w (ValueOut w gp gs s p 2) := by
  have H := Lib.hid h
  unfold cutter
  clear h
  go_enter Try.func27, Try.ntmps27
  go_wp2
  refine bodyPost_ret (v := .tuple #[.agg #[.int .i64 3, .int .i64 0, .string ⟨#[]⟩], .bool true]) (by simp [results, Try.results27, go_sem]) rfl ?_
  exact ⟨Fr.alloc (Fr.refl w _) _, Or.inl ⟨_, _, p, un2_2 _, rfl, H.out.alloc _, rfl⟩⟩
set_option maxRecDepth 100000 in
set_option maxHeartbeats 1000000 in
theorem cv3 (gp gs : Nat) (s : ByteArray) (p : Nat) (w : World) (h : Cut w gp gs s p) : Calls Try.prog 27 #[cutter gp gs, .int .u8 3] w (ValueOut w gp gs s p 3) := by
  have H := Lib.hid h
  unfold cutter
  clear h
  go_enter Try.func27, Try.ntmps27
  go_wp2
  refine bodyPost_ret (v := .tuple #[.agg #[.int .i64 3, .int .i64 1, .string ⟨#[]⟩], .bool true]) (by simp [results, Try.results27, go_sem]) rfl ?_
  exact ⟨Fr.alloc (Fr.refl w _) _, Or.inl ⟨_, _, p, un2_3 _, rfl, H.out.alloc _, rfl⟩⟩
set_option maxRecDepth 100000 in
set_option maxHeartbeats 1000000 in
theorem cvx (gp gs : Nat) (s : ByteArray) (p m : Nat) (w : World) (h : Cut w gp gs s p) (h1 : m ≠ 1) (h2 : m ≠ 2) (h3 : m ≠ 3) (h4 : m ≠ 4) (h5 : m ≠ 5) : Calls Try.prog 27 #[cutter gp gs, .int .u8 (m : Int)] w (ValueOut w gp gs s p m) := by
  have H := Lib.hid h
  have HU := Lib.hid (un2_x h1 h2 h3 h4 h5 ((sb s).drop p))
  unfold cutter
  have e1 : ((m : Int) == 1) = false := by simp; omega
  have e2 : ((m : Int) == 2) = false := by simp; omega
  have e3 : ((m : Int) == 3) = false := by simp; omega
  have e4 : ((m : Int) == 4) = false := by simp; omega
  have e5 : ((m : Int) == 5) = false := by simp; omega
  clear h h1 h2 h3 h4 h5
  go_enter Try.func27, Try.ntmps27
  go_wp2
  refine bodyPost_ret (v := .tuple #[.agg #[.int .i64 0, .int .i64 0, .string ⟨#[]⟩], .bool false]) (by simp [results, Try.results27, go_sem]) rfl ?_
  exact ⟨Fr.alloc (Fr.refl w _) _, Or.inr ⟨HU.out, ⟨0, 0, ⟨#[]⟩⟩, rfl⟩⟩

theorem Zero.cf {gp r : Nat} {w w' : World} (h : Zero w r) (hf : Cf gp w w') (hne : r ≠ gp) : Zero w' r := Blk.keep h hf hne
set_option maxRecDepth 100000 in
set_option maxHeartbeats 1000000 in
theorem cv4 (gp gs : Nat) (s : ByteArray) (p : Nat) (w : World) (h : Cut w gp gs s p) : Calls Try.prog 27 #[cutter gp gs, .int .u8 4] w (ValueOut w gp gs s p 4) := by
  have hu := un2_4 ((sb s).drop p)
  rw [List.length_drop, sb_len] at hu
  have hgp := h.1.lt
  have hgs := h.2.1.lt
  have hps := h.2.2.1
  have HC := Lib.hid (cutNumber_any gp gs s p _ (h.alloc (.cells #[.int .i64 0, .int .i64 0, .string ⟨#[]⟩] 34)))
  have HZ := Lib.hid (Zero.new w)
  unfold cutter at HC ⊢
  clear h
  by_cases h8 : p + 8 ≤ s.size
  · rw [if_pos (by omega)] at hu
    have HU := Lib.hid hu
    clear hu
    simp only [if_pos h8] at HC
    go_enter Try.func27, Try.ntmps27
    go_wp2_with fail
    refine HC.out.mono ?_
    rintro e w1 ⟨rfl, hc, hf⟩
    obtain ⟨⟨r0, r1, r2⟩, f0, f1, f2⟩ := (HZ.out.cf hf (by omega)).facts
    have HCU := Lib.hid hc
    have HF := Lib.hid (Fr.trans (T := fun b => b = gp) (Fr.alloc (Fr.refl w (fun b => b = gp)) _) hf (fun b hb => Or.inl hb))
    clear hc hf
    generalize (val (((sb s).drop p).take 8) : Int) - 9223372036854775808 = z at HU HC ⊢
    go_wp2
    refine bodyPost_ret (v := .tuple #[.agg #[.int .i64 1, .int .i64 z, .string ⟨#[]⟩], .bool true]) (by simp [results, Try.results27, go_sem, r0, r1, r2]) rfl ?_
    have ho := out3 (w := w) (r := w.heap.size) (a := .int .i64 1) (b := .int .i64 z) (c := .string ⟨#[]⟩) (Nat.le_refl _) HCU.out hgp hgs HF.out
    exact ⟨ho.2, Or.inl ⟨_, _, p + 8, HU.out, rfl, ho.1, by rw [List.drop_drop]⟩⟩
  · rw [if_neg (by omega)] at hu
    have HU := Lib.hid hu
    clear hu
    simp only [if_neg h8] at HC
    obtain ⟨⟨r0, r1, r2⟩, f0, f1, f2⟩ := HZ.out.facts
    go_enter Try.func27, Try.ntmps27
    go_wp2_with fail
    refine HC.out.mono ?_
    rintro e w1 ⟨rfl, rfl⟩
    go_wp2
    refine bodyPost_ret (v := .tuple #[.agg #[.int .i64 1, .int .i64 0, .string ⟨#[]⟩], .bool false]) (by simp [results, Try.results27, go_sem]) rfl ?_
    refine ⟨?_, Or.inr ⟨HU.out, ⟨1, 0, ⟨#[]⟩⟩, rfl⟩⟩
    first
      | exact Fr.alloc (Fr.refl w _) _
      | trace_state

theorem Zero.below {w w' : World} {B r : Nat} (h : Zero w r) (hb : Below B w w') (hr : r < B) : Zero w' r := Blk.below h hb hr
theorem Cf.below {gp : Nat} {w w1 w2 : World} (h : Cf gp w w1) (hb : Below w1.heap.size w1 w2) : Cf gp w w2 := Fr.trans (T := fun _ => False) h (Fr.of_below hb _) (fun _ hb => hb.elim)
theorem Cut.below {w w' : World} {gp gs p : Nat} {s : ByteArray} (h : Cut w gp gs s p) (hb : Below w.heap.size w w') : Cut w' gp gs s p := ⟨h.1.below hb h.1.lt, h.2.1.below hb h.2.1.lt, h.2.2⟩
theorem Cut.drew {w : World} {gp gs p : Nat} {s : ByteArray} (h : Cut w gp gs s p) : Cut w.drew gp gs s p := h
set_option maxRecDepth 100000 in
set_option maxHeartbeats 4000000 in
theorem cv5 (gp gs : Nat) (s : ByteArray) (p : Nat) (w : World) (h : Cut w gp gs s p) : Calls Try.prog 27 #[cutter gp gs, .int .u8 5] w (ValueOut w gp gs s p 5) := by
  have hu := un2_5 ((sb s).drop p)
  have hgp := h.1.lt
  have hgs := h.2.1.lt
  have HC := Lib.hid (cutText_any gp gs s p _ (h.alloc (.cells #[.int .i64 0, .int .i64 0, .string ⟨#[]⟩] 34)))
  have HZ := Lib.hid (Zero.new w)
  unfold cutter at HC ⊢
  clear h
  go_enter Try.func27, Try.ntmps27
  go_wp2_with fail
  refine HC.out.mono ?_
  rintro e w1 ⟨hf, hcase⟩
  have hz1 := HZ.out.cf hf (by omega)
  have hlt1 := hz1.lt
  have hcf1 : Cf gp w w1 := Fr.trans (T := fun b => b = gp) (Fr.alloc (Fr.refl w (fun b => b = gp)) _) hf (fun b hb => Or.inl hb)
  have HCF := Lib.hid hcf1
  have HZ1 := Lib.hid hz1
  clear hf hz1 hcf1 HC HZ
  rcases hcase with ⟨t, r, q, hun, ht, rfl, hcut, rfl⟩ | ⟨hun, rfl⟩
  · have HCU := Lib.hid hcut
    rw [hun] at hu
    simp only at hu
    have HT := Lib.hid hun
    clear hcut hun
    have hsz : (bs t).size = t.length := bs_size t
    have HM := Lib.hid (fun (W : World) (hs : (bs t).size ≤ 9223372036854775807) => may_any 2 0 (bs t) hs W)
    have hl : (bs t).size ≤ 9223372036854775807 := by
      have := unT_len HT.out
      simp only [List.length_drop, sb_len] at this
      have := HCU.out.2.2.2
      omega
    have HM := Lib.hid (fun (W : World) => HM.out W hl)
    obtain ⟨b, hb⟩ : ∃ b, b = decide (t.length ≤ 64) := ⟨_, rfl⟩
    have hmb : may 2 0 (bs t) = b := by simp [may, hsz, hb]
    rw [hmb] at HM
    have HB := Lib.hid hb
    have HU := Lib.hid hu
    clear hsz hmb hb hu ht hl
    generalize hbt : bs t = T at HM HU ⊢
    clear hbt
    obtain ⟨⟨r0, r1, r2⟩, f0, f1, f2⟩ := Zero.facts (Blk.drew (Blk.alloc HZ1.out (.cells #[.int .i64 2, .int .i64 0, .string T] 34)))
    obtain ⟨b0, b1, b2⟩ := (VB.cells (Blk.drew (VB.new w1 2 0 T)))
    go_wp2_with fail
    go_region_with (go_at_call 22; refine (HM.out _).mono ?_; rintro e w3 ⟨rfl, hb3⟩; obtain ⟨⟨r30, r31, r32⟩, f30, f31, f32⟩ := Zero.facts (Blk.below (Blk.drew (Blk.alloc HZ1.out (.cells #[.int .i64 2, .int .i64 0, .string T] 34))) hb3 (by simp; omega)); obtain ⟨b30, b31, b32⟩ := VB.cells (Blk.below (Blk.drew (VB.new w1 2 0 T)) hb3 (by simp)); have HB3 := Lib.hid hb3; clear hb3)
    all_goals
      go_wp2
      refine bodyPost_ret (v := .tuple #[.agg #[.int .i64 2, .int .i64 0, .string T], .bool b]) (by simp [results, Try.results27, go_sem, r30, r31, r32]) rfl ?_
      have ho := out3 (w := w) (r := w.heap.size) (a := .int .i64 2) (b := .int .i64 0) (c := .string T) (Nat.le_refl _) (Cut.below (Cut.drew (HCU.out.alloc (.cells #[.int .i64 2, .int .i64 0, .string T] 34))) HB3.out) hgp hgs (Cf.below (Fr.drew (Fr.alloc HCF.out (.cells #[.int .i64 2, .int .i64 0, .string T] 34))) HB3.out)
      refine ⟨ho.2, ?_⟩
      have hu := HU.out
      have hb := HB.out
      by_cases h64 : t.length ≤ 64
      · rw [if_pos h64] at hu
        rw [decide_eq_true h64] at hb
        exact Or.inl ⟨_, _, q, hu, by rw [hb], ho.1, rfl⟩
      · rw [if_neg h64] at hu
        rw [decide_eq_false h64] at hb
        exact Or.inr ⟨hu, ⟨2, 0, T⟩, by rw [hb]⟩
  · rw [hun] at hu
    have HU := Lib.hid hu
    clear hu hun
    go_wp2_with fail
    obtain ⟨W, hW⟩ : ∃ W, W = w1.alloc (.cells #[.int .i64 2, .int .i64 0, .string ⟨#[]⟩] 34) := ⟨_, rfl⟩
    rw [← hW]
    have hzW : Zero W w.heap.size := by rw [hW]; exact Blk.alloc HZ1.out _
    have hbW : VB W w1.heap.size 2 0 ⟨#[]⟩ := by rw [hW]; exact VB.new w1 2 0 ⟨#[]⟩
    have hfW : Cf gp w W := by rw [hW]; exact Fr.alloc HCF.out _
    have HFW := Lib.hid hfW
    obtain ⟨⟨r0, r1, r2⟩, f0, f1, f2⟩ := Zero.facts hzW
    obtain ⟨b0, b1, b2⟩ := VB.cells hbW
    clear hzW hbW hfW hW HCF HZ1
    go_region_with (fail)
    all_goals
      go_wp2
      refine bodyPost_ret (v := .tuple #[.agg #[.int .i64 2, .int .i64 0, .string ⟨#[]⟩], .bool false]) (by simp [results, Try.results27, go_sem, r0, r1, r2]) rfl ?_
      have hf := ((Fr.setCell (Fr.drew HFW.out) (p := ⟨w.heap.size, 0, none⟩) (Or.inr (Nat.le_refl _)) (.int .i64 2)).setCell (p := ⟨w.heap.size, 1, none⟩) (Or.inr (Nat.le_refl _)) (.int .i64 0)).setCell (p := ⟨w.heap.size, 2, none⟩) (Or.inr (Nat.le_refl _)) (.string ⟨#[]⟩)
      exact ⟨hf, Or.inr ⟨HU.out, ⟨2, 0, ⟨#[]⟩⟩, rfl⟩⟩
theorem cutValue_any (gp gs : Nat) (s : ByteArray) (p m : Nat) (w : World) (h : Cut w gp gs s p) : Calls Try.prog 27 #[cutter gp gs, .int .u8 (m : Int)] w (ValueOut w gp gs s p m) := by
  by_cases h1 : m = 1
  · subst h1; exact cv1 gp gs s p w h
  by_cases h2 : m = 2
  · subst h2; exact cv2 gp gs s p w h
  by_cases h3 : m = 3
  · subst h3; exact cv3 gp gs s p w h
  by_cases h4 : m = 4
  · subst h4; exact cv4 gp gs s p w h
  by_cases h5 : m = 5
  · subst h5; exact cv5 gp gs s p w h
  exact cvx gp gs s p m w h h1 h2 h3 h4 h5
end Go.Proofs.Ytjhlfgomoookjaa
