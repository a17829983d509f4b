/-
  THE WALKS OF THE SMALL CALLS: writable, NewWriter, Len.
-/
import Derived.Test.YtdhgbkibbileiaaGreatObjs
import Derived.Deep.DeepMust
namespace Go.Proofs.YtdhgbkibbileiaaGreat
open Go.RowKit

set_option maxRecDepth 100000 in
theorem writable_any (w : World) (S : Nat → Prop) (p : Option Nat) (ok : Bool) (l : List Nat) (h : Wr w S p ok l) :
    Calls Tryz.prog 95 #[ptr p] w fun e w' => e = .returned (.bool ok) ∧ w = w' := by
  cases p with
  | none =>
    obtain ⟨rfl, _⟩ := h
    simp only [ptr, Option.map]
    go_enter Tryz.func95, Tryz.ntmps95
    go_wp2
    go_ret
    exact ⟨rfl, rfl⟩
  | some g =>
    obtain ⟨_, v, n, hb, _⟩ := h
    have hc := hb.cell 0
    simp only [ptr, Option.map]
    clear hb
    go_enter Tryz.func95, Tryz.ntmps95
    go_wp2
    go_ret
    exact ⟨rfl, rfl⟩

set_option maxRecDepth 100000 in
theorem newWriter_any (w : World) :
    Calls Tryz.prog 39 #[] w fun e w' => e = .returned (ptr (some w.heap.size)) ∧ Wr w' (fun b => w.heap.size ≤ b) (some w.heap.size) true [] ∧ Below w.heap.size w w' := by
  go_enter Tryz.func39, Tryz.ntmps39
  go_wp2
  go_ret
  exact ⟨rfl, ⟨Nat.le_refl _, _, 0, Blk.new w 117 _, (Ow.nil_ _ _)⟩, (Below.refl _ _).alloc (Nat.le_refl _) _⟩

set_option maxRecDepth 100000 in
theorem wlen_any (w : World) (S : Nat → Prop) (p : Option Nat) (ok : Bool) (l : List Nat) (h : Wr w S p ok l) :
    Calls Tryz.prog 42 #[ptr p] w fun e w' => e = .returned (.int .i64 ((l.length : Nat) : Int)) ∧ w = w' := by
  cases p with
  | none =>
    obtain ⟨_, rfl⟩ := h
    simp only [ptr, Option.map]
    go_enter Tryz.func42, Tryz.ntmps42
    go_wp2
    go_ret
    exact ⟨rfl, rfl⟩
  | some g =>
    obtain ⟨_, v, n, hb, ho⟩ := h
    have hn := ho.len
    obtain ⟨A, c, rfl, _, _, _⟩ := ho.reads
    have hc := hb.cell 1
    simp only [ptr, Option.map]
    rw [hn]
    clear hb hn ho
    go_enter Tryz.func42, Tryz.ntmps42
    go_wp2
    go_ret
    exact ⟨rfl, rfl⟩

set_option maxRecDepth 100000 in
/-- a byte, or several, written: the row has grown, and the writer's block says where it is now -/
theorem push {w w1 : World} {S : Nat → Prop} {g n n' : Nat} {ok : Bool} {v v' : Value} {l l' : List Nat} (hg : S g) (hb : Blk w g 117 #[.bool ok, v]) (ho : Ow w S v n l)
    (hgrow : w.grownBy w1 v.ownBlock) (hn : Ow w1 (fun b => S b ∨ w.heap.size ≤ b) v' n' l') :
    Blk (w1.setCell ⟨g, 1, none⟩ v') g 117 #[.bool ok, v'] ∧ Ow (w1.setCell ⟨g, 1, none⟩ v') (Up S w) v' n' l' ∧ Fr w (w1.setCell ⟨g, 1, none⟩ v') S := by
  have hb1 : Blk w1 g 117 #[.bool ok, v] := hb.grown hgrow (hb.own_ne ho.1 (by decide))
  refine ⟨by simpa using hb1.set_ 1 v', hn.far hb1 (by decide) v', ?_⟩
  exact ((Fr.refl w S).grown hgrow fun k hk => Or.inl (ho.2.2 k hk)).setCell (Or.inl hg) _
set_option maxRecDepth 100000 in
theorem push_cell {w w1 : World} {S : Nat → Prop} {g n : Nat} {ok : Bool} {v : Value} {l : List Nat} (hb : Blk w g 117 #[.bool ok, v]) (ho : Ow w S v n l) (hgrow : w.grownBy w1 v.ownBlock) :
    w1.cell? ⟨g, 1, none⟩ = some v ∧ w1.frozen? ⟨g, 1, none⟩ = false := by
  have hb1 : Blk w1 g 117 #[.bool ok, v] := hb.grown hgrow (hb.own_ne ho.1 (by decide))
  exact ⟨by simpa using hb1.cell 1, hb1.frozen 1⟩
set_option maxRecDepth 100000 in
theorem Up.up {S : Nat → Prop} {w w' : World} (hs : w.heap.size ≤ w'.heap.size) : ∀ b, Up (Up S w) w' b → Up S w b := by
  intro b hb
  rcases hb with hb | hb
  · exact hb
  · exact Or.inr (by omega)

/-- what a walk that writes carries on: the writer's block, its row, and what has changed since w0 -/
def Wi (w0 : World) (S : Nat → Prop) (g : Nat) (l : List Nat) (w : World) : Prop :=
  S g ∧ ∃ v n, Blk w g 117 #[.bool true, v] ∧ Ow w (Up S w0) v n l ∧ Fr w0 w S
set_option maxRecDepth 100000 in
theorem Wi.start {w : World} {S : Nat → Prop} {g : Nat} {l : List Nat} (h : Wr w S (some g) true l) : Wi w S g l w := by
  obtain ⟨h1, v, n, h2, h3⟩ := h
  exact ⟨h1, v, n, h2, h3.mono fun b _ hb => Or.inl hb, Fr.refl _ _⟩
set_option maxRecDepth 100000 in
theorem Wi.done {w w' : World} {S : Nat → Prop} {g : Nat} {l : List Nat} (h : Wi w S g l w') : Wr w' (Up S w) (some g) true l ∧ Fr w w' S := by
  obtain ⟨h1, v, n, h2, h3, h4⟩ := h
  exact ⟨⟨Or.inl h1, v, n, h2, h3⟩, h4⟩
set_option maxRecDepth 100000 in
theorem Wi.drew {w w' : World} {S : Nat → Prop} {g : Nat} {l : List Nat} (h : Wi w S g l w') : Wi w S g l w'.drew := by
  obtain ⟨h1, v, n, h2, h3, h4⟩ := h
  exact ⟨h1, v, n, h2, h3, h4.drew⟩
set_option maxRecDepth 100000 in
/-- the step: from the row's owner at w behind a new block -/
theorem Wi.step {w0 w w1 : World} {S : Nat → Prop} {g n n' : Nat} {v v' : Value} {l l' : List Nat} (hg : S g) (hb : Blk w g 117 #[.bool true, v]) (ho : Ow w (Up S w0) v n l) (hf : Fr w0 w S)
    (hgrow : w.grownBy w1 v.ownBlock) (hn : Ow w1 (fun b => Up S w0 b ∨ w.heap.size ≤ b) v' n' l') : Wi w0 S g l' (w1.setCell ⟨g, 1, none⟩ v') := by
  obtain ⟨h1, h2, h3⟩ := push (S := Up S w0) (Or.inl hg) hb ho hgrow hn
  refine ⟨hg, v', n', h1, h2.mono fun b _ hb => Up.up hf.size b hb, ?_⟩
  exact hf.trans h3 fun b hb => hb

set_option maxRecDepth 100000 in
theorem one_of (w : World) (v : Int) (x : Nat) (hv : v = (x : Int)) (hx : x < 256) : RB (w.alloc (.cells #[.int .u8 v] 5)) (fun _ => True) (some ⟨w.heap.size, 0, none⟩) 1 [x] := by
  subst hv
  exact one_rb w x hx _ trivial

set_option maxRecDepth 100000 in
theorem fst_lt (k x : Nat) (h : x < 18446744073709551616) : x / 128 ^ k < 18446744073709551616 := Nat.lt_of_le_of_lt (Nat.div_le_self _ _) h

set_option maxRecDepth 100000 in
set_option maxHeartbeats 1000000 in
theorem wuint_some (w : World) (S : Nat → Prop) (g : Nat) (l : List Nat) (x : Nat) (hx : x < 18446744073709551616) (hl : l.length ≤ 1099511627776) (h : Wr w S (some g) true l) :
    Calls Tryz.prog 106 #[ptr (some g), .int .u64 (x : Int)] w fun e w' => e = .returned (.tuple #[]) ∧ Wr w' (Up S w) (some g) true (l ++ Cd.vi x) ∧ Fr w w' S := by
  have HW := Lib.hid (writable_any w S (some g) true l h)
  have HI := Lib.hid (Wi.start h)
  have h10 := Cd.vi_len10 x hx
  clear h
  simp only [ptr, Option.map] at HW ⊢
  go_enter Tryz.func106, Tryz.ntmps106
  go_wp2_with (go_at_call 95; refine HW.out.mono ?_; rintro e w' ⟨rfl, rfl⟩)
  go_loopw [1] (fun v wr => ∃ (y : Nat) (l' : List Nat), v = .int .u64 (y : Int) ∧ y ≤ x ∧ Wi w S g l' wr ∧ l' ++ Cd.vi y = l ++ Cd.vi x) (fun v _ => (intOf v).toNat)
  case atStart => exact ⟨x, l, rfl, Nat.le_refl _, HI.out, rfl⟩
  case round =>
    obtain ⟨y, l', rfl, hy, hi, hv⟩ := hrel
    obtain ⟨hg, v, n, hb, ho, hf⟩ := hi
    have hn : l'.length ≤ 1099511627776 + 10 := by
      have := congrArg List.length hv
      simp only [List.length_append] at this
      omega
    have hln := ho.len
    have hn2 : n ≤ 1099511627776 + 10 := by omega
    have hc := (hb.alloc (.cells #[.int .u8 ((128 + y % 128 : Nat) : Int)] 5)).cell 1
    have HV := Lib.hid hv
    have HO := Lib.hid ho
    have HB := Lib.hid hb
    have HF := Lib.hid hf
    have hcc := hb.cell 1
    clear hv ho hb hf hln hc
    by_cases hlt : 128 ≤ y
    · go_wp2_with (at_builtin; go_must (refine wpList_app rfl (.tmp 15) (.tmp 20) rfl v n l' rfl (HO.out.alloc _) (fun _ => True) (some ⟨wr.heap.size, 0, none⟩) 1 1 [128 + y % 128] rfl (one_of _ _ _ (by omega) (by omega)) (by omega) ?_); intro v1 w1 hown hgrow; obtain ⟨A1, cc1, rfl, _, _, _⟩ := hown.reads; obtain ⟨hc1, hf1⟩ := push_cell (HB.out.alloc _) (HO.out.alloc _) hgrow; have HS := Lib.hid (Wi.step hg (HB.out.alloc _) (HO.out.alloc _) (HF.out.alloc _) hgrow hown); clear hown hgrow)
      go_roundw
      case rel =>
        refine ⟨y / 128, l' ++ [128 + y % 128], by go_num, by omega, HS.out, ?_⟩
        have hv := HV.out
        rw [Cd.vi_big (by omega)] at hv
        rw [← hv]
        simp
      case measure => simp [intOf]; omega
    · go_wp2_with (at_builtin; go_must (refine wpList_app rfl (.tmp 28) (.tmp 31) rfl v n l' rfl (HO.out.alloc _) (fun _ => True) (some ⟨wr.heap.size, 0, none⟩) 1 1 [y] rfl (one_of _ _ _ (by omega) (by omega)) (by omega) ?_); intro v1 w1 hown hgrow; obtain ⟨A1, cc1, rfl, _, _, _⟩ := hown.reads; obtain ⟨hc1, hf1⟩ := push_cell (HB.out.alloc _) (HO.out.alloc _) hgrow; have HS := Lib.hid (Wi.step hg (HB.out.alloc _) (HO.out.alloc _) (HF.out.alloc _) hgrow hown); clear hown hgrow)
      go_end0
      have hv := HV.out
      rw [Cd.vi_small (by omega)] at hv
      rw [← hv]
      exact ⟨rfl, Wi.done HS.out⟩
end Go.Proofs.YtdhgbkibbileiaaGreat
