/-
  THE WALKS OF THE WRITER (stage 2's).
-/
import Derived.Test.YtiilhnedflmgoaaWords
import Derived.Deep.DeepMust
import Derived.Deep.RegionLaw
import Derived.Deep.DrawnRows
namespace Go.Proofs.Ytiilhnedflmgoaa
open Go.RowKit


set_option maxRecDepth 100000 in
theorem writable_any (w : World) (S : Nat → Prop) (p : Option Nat) (ok : Bool) (l : List Nat) (h : Wr w S p ok l) :
    Calls Try.prog 54 #[ptr p] w fun e w' => e = .returned (.bool ok) ∧ w = w' := by
  cases p with
  | none =>
    obtain ⟨rfl, _⟩ := h
    simp only [ptr, Option.map]
    go_enter Try.func54, Try.ntmps54
    go_wp2
    go_ret
    exact ⟨rfl, rfl⟩
  | some g =>
    obtain ⟨_, v, n, hb, _⟩ := h
    have hc := hb.cell 0
    simp only [ptr, Option.map]
    clear hb
    go_enter Try.func54, Try.ntmps54
    go_wp2
    go_ret
    exact ⟨rfl, rfl⟩

set_option maxRecDepth 100000 in
theorem newWriter_any (w : World) :
    Calls Try.prog 27 #[] w fun e w' => e = .returned (ptr (some w.heap.size)) ∧ Wr w' (fun b => w.heap.size ≤ b) (some w.heap.size) true [] ∧ Below w.heap.size w w' := by
  go_enter Try.func27, Try.ntmps27
  go_wp2
  go_ret
  exact ⟨rfl, ⟨Nat.le_refl _, _, 0, Blk.new w 73 _, (Ow.nil_ _ _)⟩, (Below.refl _ _).alloc (Nat.le_refl _) _⟩

set_option maxRecDepth 100000 in
theorem wlen_any (w : World) (S : Nat → Prop) (p : Option Nat) (ok : Bool) (l : List Nat) (h : Wr w S p ok l) :
    Calls Try.prog 31 #[ptr p] w fun e w' => e = .returned (.int .i64 ((l.length : Nat) : Int)) ∧ w = w' := by
  cases p with
  | none =>
    obtain ⟨_, rfl⟩ := h
    simp only [ptr, Option.map]
    go_enter Try.func31, Try.ntmps31
    go_wp2
    go_ret
    exact ⟨rfl, rfl⟩
  | some g =>
    obtain ⟨_, v, n, hb, ho⟩ := h
    have hn := ho.len
    obtain ⟨A, c, rfl, _, _, _⟩ := ho.reads
    have hc := hb.cell 1
    simp only [ptr, Option.map]
    rw [hn]
    clear hb hn ho
    go_enter Try.func31, Try.ntmps31
    go_wp2
    go_ret
    exact ⟨rfl, rfl⟩

set_option maxRecDepth 100000 in
/-- a byte, or several, written: the row has grown, and the writer's block says where it is now -/
theorem push {w w1 : World} {S : Nat → Prop} {g n n' : Nat} {ok : Bool} {v v' : Value} {l l' : List Nat} (hg : S g) (hb : Blk w g 73 #[.bool ok, v]) (ho : Ow w S v n l)
    (hgrow : w.grownBy w1 v.ownBlock) (hn : Ow w1 (fun b => S b ∨ w.heap.size ≤ b) v' n' l') :
    Blk (w1.setCell ⟨g, 1, none⟩ v') g 73 #[.bool ok, v'] ∧ Ow (w1.setCell ⟨g, 1, none⟩ v') (Up S w) v' n' l' ∧ Fr w (w1.setCell ⟨g, 1, none⟩ v') S := by
  have hb1 : Blk w1 g 73 #[.bool ok, v] := hb.grown hgrow (hb.own_ne ho.1 (by decide))
  refine ⟨by simpa using hb1.set_ 1 v', hn.far hb1 (by decide) v', ?_⟩
  exact ((Fr.refl w S).grown hgrow fun k hk => Or.inl (ho.2.2 k hk)).setCell (Or.inl hg) _
set_option maxRecDepth 100000 in
theorem push_cell {w w1 : World} {S : Nat → Prop} {g n : Nat} {ok : Bool} {v : Value} {l : List Nat} (hb : Blk w g 73 #[.bool ok, v]) (ho : Ow w S v n l) (hgrow : w.grownBy w1 v.ownBlock) :
    w1.cell? ⟨g, 1, none⟩ = some v ∧ w1.frozen? ⟨g, 1, none⟩ = false := by
  have hb1 : Blk w1 g 73 #[.bool ok, v] := hb.grown hgrow (hb.own_ne ho.1 (by decide))
  exact ⟨by simpa using hb1.cell 1, hb1.frozen 1⟩
set_option maxRecDepth 100000 in
theorem Up.up {S : Nat → Prop} {w w' : World} (hs : w.heap.size ≤ w'.heap.size) : ∀ b, Up (Up S w) w' b → Up S w b := by
  intro b hb
  rcases hb with hb | hb
  · exact hb
  · exact Or.inr (by omega)

/-- what a walk that writes carries on: the writer's block, its row, and what has changed since w0 -/
def Wi (w0 : World) (S : Nat → Prop) (g : Nat) (l : List Nat) (w : World) : Prop :=
  S g ∧ ∃ v n, Blk w g 73 #[.bool true, v] ∧ Ow w (Up S w0) v n l ∧ Fr w0 w S
set_option maxRecDepth 100000 in
theorem Wi.start {w : World} {S : Nat → Prop} {g : Nat} {l : List Nat} (h : Wr w S (some g) true l) : Wi w S g l w := by
  obtain ⟨h1, v, n, h2, h3⟩ := h
  exact ⟨h1, v, n, h2, h3.mono fun b _ hb => Or.inl hb, Fr.refl _ _⟩
set_option maxRecDepth 100000 in
theorem Wi.done {w w' : World} {S : Nat → Prop} {g : Nat} {l : List Nat} (h : Wi w S g l w') : Wr w' (Up S w) (some g) true l ∧ Fr w w' S := by
  obtain ⟨h1, v, n, h2, h3, h4⟩ := h
  exact ⟨⟨Or.inl h1, v, n, h2, h3⟩, h4⟩
set_option maxRecDepth 100000 in
theorem Wi.drew {w w' : World} {S : Nat → Prop} {g : Nat} {l : List Nat} (h : Wi w S g l w') : Wi w S g l w'.drew := by
  obtain ⟨h1, v, n, h2, h3, h4⟩ := h
  exact ⟨h1, v, n, h2, h3, h4.drew⟩
set_option maxRecDepth 100000 in
/-- the step: from the row's owner at w behind a new block -/
theorem Wi.step {w0 w w1 : World} {S : Nat → Prop} {g n n' : Nat} {v v' : Value} {l l' : List Nat} (hg : S g) (hb : Blk w g 73 #[.bool true, v]) (ho : Ow w (Up S w0) v n l) (hf : Fr w0 w S)
    (hgrow : w.grownBy w1 v.ownBlock) (hn : Ow w1 (fun b => Up S w0 b ∨ w.heap.size ≤ b) v' n' l') : Wi w0 S g l' (w1.setCell ⟨g, 1, none⟩ v') := by
  obtain ⟨h1, h2, h3⟩ := push (S := Up S w0) (Or.inl hg) hb ho hgrow hn
  refine ⟨hg, v', n', h1, h2.mono fun b _ hb => Up.up hf.size b hb, ?_⟩
  exact hf.trans h3 fun b hb => hb

set_option maxRecDepth 100000 in
theorem one_of (w : World) (v : Int) (x : Nat) (hv : v = (x : Int)) (hx : x < 256) : RB (w.alloc (.cells #[.int .u8 v] 5)) (fun _ => True) (some ⟨w.heap.size, 0, none⟩) 1 [x] := by
  subst hv
  exact one_rb w x hx _ trivial

set_option maxRecDepth 100000 in
theorem fst_lt (k x : Nat) (h : x < 18446744073709551616) : x / 128 ^ k < 18446744073709551616 := Nat.lt_of_le_of_lt (Nat.div_le_self _ _) h

set_option maxRecDepth 100000 in
set_option maxHeartbeats 1000000 in
theorem wuint_some (w : World) (S : Nat → Prop) (g : Nat) (l : List Nat) (x : Nat) (hx : x < 18446744073709551616) (hl : l.length ≤ 1099511627776) (h : Wr w S (some g) true l) :
    Calls Try.prog 69 #[ptr (some g), .int .u64 (x : Int)] w fun e w' => e = .returned (.tuple #[]) ∧ Wr w' (Up S w) (some g) true (l ++ Cd.vi x) ∧ Fr w w' S := by
  have HW := Lib.hid (writable_any w S (some g) true l h)
  have HI := Lib.hid (Wi.start h)
  have h10 := Cd.vi_len10 x hx
  clear h
  simp only [ptr, Option.map] at HW ⊢
  go_enter Try.func69, Try.ntmps69
  go_wp2_with (go_at_call 54; refine HW.out.mono ?_; rintro e w' ⟨rfl, rfl⟩)
  go_loopw [1] (fun v wr => ∃ (y : Nat) (l' : List Nat), v = .int .u64 (y : Int) ∧ y ≤ x ∧ Wi w S g l' wr ∧ l' ++ Cd.vi y = l ++ Cd.vi x) (fun v _ => (intOf v).toNat)
  case atStart => exact ⟨x, l, rfl, Nat.le_refl _, HI.out, rfl⟩
  case round =>
    obtain ⟨y, l', rfl, hy, hi, hv⟩ := hrel
    obtain ⟨hg, v, n, hb, ho, hf⟩ := hi
    have hn : l'.length ≤ 1099511627776 + 10 := by
      have := congrArg List.length hv
      simp only [List.length_append] at this
      omega
    have hln := ho.len
    have hn2 : n ≤ 1099511627776 + 10 := by omega
    have hc := (hb.alloc (.cells #[.int .u8 ((128 + y % 128 : Nat) : Int)] 5)).cell 1
    have HV := Lib.hid hv
    have HO := Lib.hid ho
    have HB := Lib.hid hb
    have HF := Lib.hid hf
    have hcc := hb.cell 1
    clear hv ho hb hf hln hc
    by_cases hlt : 128 ≤ y
    · go_wp2_with (at_builtin; go_must (refine wpList_app rfl (.tmp 15) (.tmp 20) rfl v n l' rfl (HO.out.alloc _) (fun _ => True) (some ⟨wr.heap.size, 0, none⟩) 1 1 [128 + y % 128] rfl (one_of _ _ _ (by omega) (by omega)) (by omega) ?_); intro v1 w1 hown hgrow; obtain ⟨A1, cc1, rfl, _, _, _⟩ := hown.reads; obtain ⟨hc1, hf1⟩ := push_cell (HB.out.alloc _) (HO.out.alloc _) hgrow; have HS := Lib.hid (Wi.step hg (HB.out.alloc _) (HO.out.alloc _) (HF.out.alloc _) hgrow hown); clear hown hgrow)
      go_roundw
      case rel =>
        refine ⟨y / 128, l' ++ [128 + y % 128], by go_num, by omega, HS.out, ?_⟩
        have hv := HV.out
        rw [Cd.vi_big (by omega)] at hv
        rw [← hv]
        simp
      case measure => simp [intOf]; omega
    · go_wp2_with (at_builtin; go_must (refine wpList_app rfl (.tmp 28) (.tmp 31) rfl v n l' rfl (HO.out.alloc _) (fun _ => True) (some ⟨wr.heap.size, 0, none⟩) 1 1 [y] rfl (one_of _ _ _ (by omega) (by omega)) (by omega) ?_); intro v1 w1 hown hgrow; obtain ⟨A1, cc1, rfl, _, _, _⟩ := hown.reads; obtain ⟨hc1, hf1⟩ := push_cell (HB.out.alloc _) (HO.out.alloc _) hgrow; have HS := Lib.hid (Wi.step hg (HB.out.alloc _) (HO.out.alloc _) (HF.out.alloc _) hgrow hown); clear hown hgrow)
      go_end0
      have hv := HV.out
      rw [Cd.vi_small (by omega)] at hv
      rw [← hv]
      exact ⟨rfl, Wi.done HS.out⟩
set_option maxRecDepth 100000 in
theorem len8 (w : World) : Calls Try.prog 78 #[.int .u64 255] w fun e w' => e = .returned (.int .i64 8) ∧ w = w' := by
  go_enter Try.func78, Try.ntmps78
  go_wp2
  go_ret
  exact ⟨by kernel_rfl, rfl⟩
set_option maxRecDepth 100000 in
theorem size8 (w : World) : Calls Try.prog 77 #[] w fun e w' => e = .returned (.int .i64 1) ∧ w = w' := by
  go_enter Try.func77, Try.ntmps77
  go_wp2_with (go_at_call 78; refine (len8 _).mono ?_; rintro e w' ⟨rfl, rfl⟩)
  go_ret
  exact ⟨rfl, rfl⟩
set_option maxRecDepth 100000 in
theorem shr_byte (x k : Nat) : IntKind.u8.wrap ((x : Int) / 2 ^ (8 * (k : Int)).toNat) = ((x / 256 ^ k % 256 : Nat) : Int) := by
  have h2 : (8 * (k : Int)).toNat = 8 * k := by omega
  have h4 : ((x : Int) / 2 ^ (8 * k)) = ((x / 256 ^ k : Nat) : Int) := by
    have : (2 : Int) ^ (8 * k) = ((256 ^ k : Nat) : Int) := by
      rw [Int.pow_mul]
      simp
    rw [this]
    simp
  rw [h2, h4]
  simp only [IntKind.wrap_u8]
  omega
set_option maxRecDepth 100000 in
theorem shr_u8 (x k : Nat) (hx : x < 256) : (x : Int) / 2 ^ (8 * (k : Int)).toNat = ((x / 256 ^ k % 256 : Nat) : Int) := by
  have h2 : (8 * (k : Int)).toNat = 8 * k := by omega
  have h4 : ((x : Int) / 2 ^ (8 * k)) = ((x / 256 ^ k : Nat) : Int) := by
    have : (2 : Int) ^ (8 * k) = ((256 ^ k : Nat) : Int) := by
      rw [Int.pow_mul]
      simp
    rw [this]
    simp
  rw [h2, h4, Nat.mod_eq_of_lt (Nat.lt_of_le_of_lt (Nat.div_le_self _ _) hx)]
set_option maxRecDepth 100000 in
theorem wrap8 (k : Nat) (h : k ≤ 8) : IntKind.i64.wrap (8 * (k : Int)) = 8 * (k : Int) := IntWalk.i64_in _ (by omega)

set_option maxRecDepth 100000 in
set_option maxHeartbeats 1000000 in
theorem wfix8_some (w : World) (S : Nat → Prop) (g : Nat) (l : List Nat) (x : Nat) (hx : x < 256) (hl : l.length ≤ 1099511627776) (h : Wr w S (some g) true l) :
    Calls Try.prog 74 #[ptr (some g), .int .u8 (x : Int)] w fun e w' => e = .returned (.tuple #[]) ∧ Wr w' (Up S w) (some g) true (l ++ Cd.fixB 1 x) ∧ Fr w w' S := by
  have HW := Lib.hid (writable_any w S (some g) true l h)
  have HI := Lib.hid (Wi.start h)
  clear h
  simp only [ptr, Option.map] at HW ⊢
  go_enter Try.func74, Try.ntmps74
  go_wp2_with (first | (go_at_call 54; refine HW.out.mono ?_; rintro e w' ⟨rfl, rfl⟩) | (go_at_call 77; refine (size8 _).mono ?_; rintro e w' ⟨rfl, rfl⟩))
  go_loopw [9] (fun v wr => ∃ k : Nat, v = .int .i64 (k : Int) ∧ k ≤ 1 ∧ Wi w S g (l ++ Cd.fixB k x) wr) (fun v _ => 1 - (intOf v).toNat)
  case atStart => exact ⟨0, rfl, by omega, by simpa [Cd.fixB] using HI.out⟩
  case round =>
    obtain ⟨k, rfl, hk, hi⟩ := hrel
    obtain ⟨hg, v, n, hb, ho, hf⟩ := hi
    have hln := ho.len
    simp only [List.length_append, Cd.fixB_len] at hln
    have hn2 : n ≤ 1099511627776 + 10 := by omega
    have HO := Lib.hid ho
    have HB := Lib.hid hb
    have HF := Lib.hid hf
    have hcc : wr.cell? ⟨g, 1, none⟩ = some v := by simpa using hb.cell 1
    have hcc2 : wr.frozen? ⟨g, 1, none⟩ = false := hb.frozen 1
    have hgl : g < wr.heap.size := hb.lt
    clear ho hb hf hln
    by_cases hlt : k < 1
    · have hwr := wrap8 k (by omega)
      go_wp2
      go_region_law ((refine step_app rfl (.tmp 16) (.tmp 21) rfl v n (l ++ Cd.fixB k x) rfl (by first | exact (HO.out.alloc _).drew | exact HO.out.drew.alloc _) (fun _ => True) (some ⟨wr.heap.size, 0, none⟩) 1 1 [x / 256 ^ k % 256] rfl (by exact one_of _ _ _ (by exact shr_u8 x k hx) (by omega)) (by omega) ?_; intro v1 w1 hown hgrow; obtain ⟨A1, cc1, rfl, _, _, _⟩ := hown.reads; obtain ⟨hc1, hf1⟩ := push_cell (HB.out.drew.alloc _) (HO.out.drew.alloc _) hgrow; have HS := Lib.hid (Wi.step hg (HB.out.drew.alloc _) (HO.out.drew.alloc _) (HF.out.drew.alloc _) hgrow hown); clear hown hgrow))
      all_goals
        go_wp2
        go_roundw
        case rel => exact ⟨k + 1, by go_num, by omega, by rw [Cd.fixB_snoc, ← List.append_assoc]; exact HS.out⟩
        case measure => simp [intOf]; omega
    · obtain rfl : k = 1 := by omega
      go_wp2
      go_end0
      exact ⟨rfl, Wi.done ⟨hg, v, n, HB.out, HO.out, HF.out⟩⟩
def put (ok : Bool) (l k : List Nat) : List Nat := if ok then l ++ k else l
/-- k has been written to the writer p -/
def Wrote (w : World) (S : Nat → Prop) (p : Option Nat) (ok : Bool) (l k : List Nat) (w' : World) : Prop := Wr w' (Up S w) p ok (put ok l k) ∧ Fr w w' S
set_option maxRecDepth 100000 in
theorem Wrote.of_true {w w' : World} {S : Nat → Prop} {g : Nat} {l k : List Nat} (h : Wr w' (Up S w) (some g) true (l ++ k) ∧ Fr w w' S) : Wrote w S (some g) true l k w' := h
set_option maxRecDepth 100000 in
theorem Wrote.of_false {w : World} {S : Nat → Prop} {p : Option Nat} {l : List Nat} (h : Wr w S p false l) (k : List Nat) : Wrote w S p false l k w := ⟨Wr.mono h fun _ _ hb => Or.inl hb, Fr.refl _ _⟩
set_option maxRecDepth 100000 in
theorem some_of_true {w : World} {S : Nat → Prop} {p : Option Nat} {l : List Nat} (h : Wr w S p true l) : ∃ g, p = some g := by
  cases p with
  | none => exact absurd h.1 (by simp)
  | some g => exact ⟨g, rfl⟩

set_option maxRecDepth 100000 in
theorem sb_cells (s : ByteArray) : Lib.strCells s = u8s (sb s) := by simp [Lib.strCells, u8s, sb, Function.comp_def]
set_option maxRecDepth 100000 in
theorem wuint_no (w : World) (S : Nat → Prop) (p : Option Nat) (l : List Nat) (x : Int) (h : Wr w S p false l) :
    Calls Try.prog 69 #[ptr p, .int .u64 x] w fun e w' => e = .returned (.tuple #[]) ∧ w = w' := by
  have HW := Lib.hid (writable_any w S p false l h)
  clear h
  go_enter Try.func69, Try.ntmps69
  go_wp2_with (go_at_call 54; refine HW.out.mono ?_; rintro e w' ⟨rfl, rfl⟩)
  refine bodyPost_ret (results_none rfl _ _ _) rfl ?_
  exact ⟨rfl, rfl⟩
set_option maxRecDepth 100000 in
theorem wfix8_no (w : World) (S : Nat → Prop) (p : Option Nat) (l : List Nat) (x : Int) (h : Wr w S p false l) :
    Calls Try.prog 74 #[ptr p, .int .u8 x] w fun e w' => e = .returned (.tuple #[]) ∧ w = w' := by
  have HW := Lib.hid (writable_any w S p false l h)
  clear h
  go_enter Try.func74, Try.ntmps74
  go_wp2_with (go_at_call 54; refine HW.out.mono ?_; rintro e w' ⟨rfl, rfl⟩)
  refine bodyPost_ret (results_none rfl _ _ _) rfl ?_
  exact ⟨rfl, rfl⟩
set_option maxRecDepth 100000 in
theorem wuint_any (w : World) (S : Nat → Prop) (p : Option Nat) (ok : Bool) (l : List Nat) (x : Nat) (hx : x < 18446744073709551616) (hl : l.length ≤ 1099511627776) (h : Wr w S p ok l) :
    Calls Try.prog 69 #[ptr p, .int .u64 (x : Int)] w fun e w' => e = .returned (.tuple #[]) ∧ Wrote w S p ok l (Cd.vi x) w' := by
  cases ok with
  | true =>
    obtain ⟨g, rfl⟩ := some_of_true h
    exact (wuint_some w S g l x hx hl h).mono fun e w' hh => ⟨hh.1, Wrote.of_true hh.2⟩
  | false => exact (wuint_no w S p l _ h).mono fun e w' hh => ⟨hh.1, by rw [← hh.2]; exact Wrote.of_false h _⟩
set_option maxRecDepth 100000 in
theorem wfix8_any (w : World) (S : Nat → Prop) (p : Option Nat) (ok : Bool) (l : List Nat) (x : Nat) (hx : x < 256) (hl : l.length ≤ 1099511627776) (h : Wr w S p ok l) :
    Calls Try.prog 74 #[ptr p, .int .u8 (x : Int)] w fun e w' => e = .returned (.tuple #[]) ∧ Wrote w S p ok l (Cd.fixB 1 x) w' := by
  cases ok with
  | true =>
    obtain ⟨g, rfl⟩ := some_of_true h
    exact (wfix8_some w S g l x hx hl h).mono fun e w' hh => ⟨hh.1, Wrote.of_true hh.2⟩
  | false => exact (wfix8_no w S p l _ h).mono fun e w' hh => ⟨hh.1, by rw [← hh.2]; exact Wrote.of_false h _⟩
set_option maxRecDepth 100000 in
theorem wu8_any (w : World) (S : Nat → Prop) (p : Option Nat) (ok : Bool) (l : List Nat) (x : Nat) (hx : x < 256) (hl : l.length ≤ 1099511627776) (h : Wr w S p ok l) :
    Calls Try.prog 51 #[ptr p, .int .u8 (x : Int)] w fun e w' => e = .returned (.tuple #[]) ∧ Wrote w S p ok l (Cd.fixB 1 x) w' := by
  have HC := Lib.hid (wfix8_any w S p ok l x hx hl h)
  clear h
  go_enter Try.func51, Try.ntmps51
  go_wp2_with (go_at_call 74; refine HC.out.mono ?_; rintro e w' ⟨rfl, hw⟩; have HW := Lib.hid hw; clear hw)
  go_end0
  exact ⟨rfl, HW.out⟩
set_option maxRecDepth 100000 in
theorem ret_int {k : IntKind} {a b : Int} (h : a = b) : Ending.returned (.int k a) = .returned (.int k b) := by rw [h]
set_option maxRecDepth 100000 in
theorem not_i64 (x : Int) (h1 : -9223372036854775808 ≤ x) (h2 : x ≤ 9223372036854775807) : bits BinOp.xor .i64 (-1) x = -x - 1 := by
  show IntKind.i64.wrap ((BitVec.ofInt 64 (-1) ^^^ BitVec.ofInt 64 x).toNat : Int) = _
  have e : BitVec.ofInt 64 (-1) ^^^ BitVec.ofInt 64 x = ~~~ BitVec.ofInt 64 x := by
    rw [show BitVec.ofInt 64 (-1) = BitVec.allOnes 64 by decide, BitVec.allOnes_xor]
  rw [e, BitVec.toNat_not, BitVec.toNat_ofInt, IntKind.wrap_i64]
  omega
set_option maxRecDepth 100000 in
theorem unsigned_any (x : Int) (h1 : -9223372036854775808 ≤ x) (h2 : x ≤ 9223372036854775807) (w : World) :
    Calls Try.prog 70 #[.int .i64 x] w fun e w' => e = .returned (.int .u64 ((Cd.zz x : Nat) : Int)) ∧ w = w' := by
  by_cases hx : 0 ≤ x
  · have hz : ((Cd.zz x : Nat) : Int) = 2 * x := by unfold Cd.zz; rw [if_pos hx]; omega
    rw [hz]
    clear hz
    go_enter Try.func70, Try.ntmps70
    go_wp2
    go_ret
    exact ⟨rfl, rfl⟩
  · have hz : ((Cd.zz x : Nat) : Int) = 2 * (-x - 1) + 1 := by unfold Cd.zz; rw [if_neg hx]; omega
    have hn := not_i64 x h1 h2
    rw [hz]
    clear hz
    go_enter Try.func70, Try.ntmps70
    go_wp2
    all_goals first | (exfalso; simp_all; done) | skip
    go_ret
    show Ending.returned (Value.int .u64 (IntKind.u64.wrap (IntKind.u64.wrap (2 * IntKind.u64.wrap (-x - 1)) + 1))) = _ ∧ _
    refine ⟨ret_int ?_, rfl⟩
    simp only [IntKind.wrap_u64]
    omega
set_option maxRecDepth 100000 in
theorem wint_any (w : World) (S : Nat → Prop) (p : Option Nat) (ok : Bool) (l : List Nat) (x : Int) (h1 : -9223372036854775808 ≤ x) (h2 : x ≤ 9223372036854775807) (hl : l.length ≤ 1099511627776) (h : Wr w S p ok l) :
    Calls Try.prog 43 #[ptr p, .int .i64 x] w fun e w' => e = .returned (.tuple #[]) ∧ Wrote w S p ok l (Cd.vi (Cd.zz x)) w' := by
  have HC := Lib.hid (wuint_any w S p ok l (Cd.zz x) (Cd.zz_lt x h1 h2) hl h)
  clear h
  go_enter Try.func43, Try.ntmps43
  go_wp2_with (first | (go_at_call 70; refine (unsigned_any x h1 h2 _).mono ?_; rintro e w' ⟨rfl, rfl⟩) | (go_at_call 69; refine HC.out.mono ?_; rintro e w' ⟨rfl, hw⟩; have HW := Lib.hid hw; clear hw))
  go_end0
  exact ⟨rfl, HW.out⟩

set_option maxRecDepth 100000 in
theorem Wi.of_wr {w w' : World} {S : Nat → Prop} {g : Nat} {l : List Nat} (hS : S g) (h : Wr w' (Up S w) (some g) true l) (hf : Fr w w' S) : Wi w S g l w' := by
  obtain ⟨_, v, n, h2, h3⟩ := h
  exact ⟨hS, v, n, h2, h3, hf⟩

set_option maxRecDepth 100000 in
theorem wtext_some (w : World) (S : Nat → Prop) (g : Nat) (l : List Nat) (s : ByteArray) (hs : s.size ≤ 1099511627776) (hl : l.length ≤ 1099511627776) (h : Wr w S (some g) true l) :
    Calls Try.prog 47 #[ptr (some g), .string s] w fun e w' => e = .returned (.tuple #[]) ∧ Wr w' (Up S w) (some g) true (l ++ Cd.tx (sb s)) ∧ Fr w w' S := by
  have HW := Lib.hid (writable_any w S (some g) true l h)
  have HC := Lib.hid (wuint_some w S g l s.size (by omega) hl h)
  have hSg : S g := h.1
  have h10 := Cd.vi_len10 s.size (by omega)
  clear h
  simp only [ptr, Option.map] at HW HC ⊢
  go_enter Try.func47, Try.ntmps47
  go_wp2_with (go_at_call 54; refine HW.out.mono ?_; rintro e w' ⟨rfl, rfl⟩)
  go_wp2_with fail
  refine HC.out.mono ?_
  rintro e w1 ⟨rfl, hw, hf⟩
  obtain ⟨_, v, n, hb, ho⟩ := hw
  have hln := ho.len
  rw [List.length_append] at hln
  have hn2 : n ≤ 1099511627776 + 10 := by omega
  have HB := Lib.hid hb
  have HO := Lib.hid ho
  have HF := Lib.hid hf
  have hcc : w1.cell? ⟨g, 1, none⟩ = some v := by simpa using hb.cell 1
  clear hb ho hf hln
  go_wp2_with (at_builtin; go_must (refine wpList_app_str rfl (.tmp 16) (.tmp 17) rfl v n (l ++ Cd.vi s.size) rfl HO.out s (sb s) rfl (sb_cells s) (sb_lt s) (by omega) ?_); intro v1 w2 hown hgrow; obtain ⟨A1, cc1, rfl, _, _, _⟩ := hown.reads; obtain ⟨hc1, hf1⟩ := push_cell HB.out HO.out hgrow; have HS := Lib.hid (Wi.step hSg HB.out HO.out HF.out hgrow hown); clear hown hgrow)
  go_end0
  have hd := Wi.done HS.out
  refine ⟨rfl, ?_⟩
  rw [Cd.tx, sb_len, ← List.append_assoc]
  exact hd
set_option maxRecDepth 100000 in
theorem wtext_any (w : World) (S : Nat → Prop) (p : Option Nat) (ok : Bool) (l : List Nat) (s : ByteArray) (hs : s.size ≤ 1099511627776) (hl : l.length ≤ 1099511627776) (h : Wr w S p ok l) :
    Calls Try.prog 47 #[ptr p, .string s] w fun e w' => e = .returned (.tuple #[]) ∧ Wrote w S p ok l (Cd.tx (sb s)) w' := by
  cases ok with
  | true =>
    obtain ⟨g, rfl⟩ := some_of_true h
    exact (wtext_some w S g l s hs hl h).mono fun e w' hh => ⟨hh.1, Wrote.of_true hh.2⟩
  | false =>
    have HW := Lib.hid (writable_any w S p false l h)
    have HR := Lib.hid (Wrote.of_false h (Cd.tx (sb s)))
    clear h
    go_enter Try.func47, Try.ntmps47
    go_wp2_with (go_at_call 54; refine HW.out.mono ?_; rintro e w' ⟨rfl, rfl⟩)
    refine bodyPost_ret (results_none rfl _ _ _) rfl ?_
    exact ⟨rfl, HR.out⟩

set_option maxRecDepth 100000 in
theorem wraw_any (w : World) (S T : Nat → Prop) (p : Option Nat) (ok : Bool) (l : List Nat) (A : Option Addr) (m c : Nat) (k : List Nat) (hr : RB w T A m k) (hm : m ≤ 1099511627776) (hl : l.length ≤ 1099511627776) (h : Wr w S p ok l) :
    Calls Try.prog 29 #[ptr p, .slice A m c] w fun e w' => e = .returned (.tuple #[]) ∧ Wrote w S p ok l k w' := by
  have HW := Lib.hid (writable_any w S p ok l h)
  cases ok with
  | true =>
    obtain ⟨g, rfl⟩ := some_of_true h
    obtain ⟨hSg, v, n, hb, ho⟩ := h
    have hln := ho.len
    have hn2 : n ≤ 1099511627776 + 10 := by omega
    have HB := Lib.hid hb
    have HO := Lib.hid ho
    have HR := Lib.hid hr
    have hcc : w.cell? ⟨g, 1, none⟩ = some v := by simpa using hb.cell 1
    clear hb ho hln hr
    simp only [ptr, Option.map] at HW ⊢
    go_enter Try.func29, Try.ntmps29
    go_wp2_with (first | (go_at_call 54; refine HW.out.mono ?_; rintro e w' ⟨rfl, rfl⟩) | (at_builtin; go_must (refine wpList_app rfl (.tmp 11) (.tmp 12) rfl v n l rfl HO.out T A m c k rfl HR.out (by omega) ?_); intro v1 w2 hown hgrow; obtain ⟨A1, cc1, rfl, _, _, _⟩ := hown.reads; obtain ⟨hc1, hf1⟩ := push_cell HB.out HO.out hgrow; have HS := Lib.hid (push hSg HB.out HO.out hgrow hown); clear hown hgrow))
    go_end0
    obtain ⟨h1, h2, h3⟩ := HS.out
    exact ⟨rfl, Wrote.of_true ⟨⟨Or.inl hSg, _, _, h1, h2⟩, h3⟩⟩
  | false =>
    have HR := Lib.hid (Wrote.of_false h k)
    clear h hr
    go_enter Try.func29, Try.ntmps29
    go_wp2_with (go_at_call 54; refine HW.out.mono ?_; rintro e w' ⟨rfl, rfl⟩)
    refine bodyPost_ret (results_none rfl _ _ _) rfl ?_
    exact ⟨rfl, HR.out⟩

/-- a new row with the bytes l is answered; what was there is as it was -/
def New (w : World) (l : List Nat) (e : Ending) (w' : World) : Prop := ∃ v, e = .returned v ∧ Ow w' (fun b => w.heap.size ≤ b) v l.length l ∧ Below w.heap.size w w'
/-- a row of the call's own that grows -/
def Own (w wr : World) (v : Value) (l : List Nat) : Prop := Ow wr (fun b => w.heap.size ≤ b) v l.length l ∧ Below w.heap.size w wr
set_option maxRecDepth 100000 in
theorem Own.nil_ (w : World) : Own w w (.slice none 0 0) [] := ⟨Ow.nil_ _ _, Below.refl _ _⟩
set_option maxRecDepth 100000 in
theorem Own.made (w : World) : Own w (w.alloc (.cells #[] 5)) (.slice (some ⟨w.heap.size, 0, none⟩) 0 0) [] := ⟨Ow.made _ _ (Nat.le_refl _), (Below.refl _ _).alloc (Nat.le_refl _) _⟩
set_option maxRecDepth 100000 in
theorem Own.step {w wr w1 : World} {v v' : Value} {n' : Nat} {l l' : List Nat} (h : Own w wr v l) (hgrow : wr.grownBy w1 v.ownBlock) (hn : Ow w1 (fun b => w.heap.size ≤ b ∨ wr.heap.size ≤ b) v' n' l') : Own w w1 v' l' := by
  have hs := h.2.size
  have hl := hn.len
  subst hl
  exact ⟨hn.mono fun b _ hb => by omega, h.2.grown hgrow hs fun k hk => h.1.2.2 k hk⟩
set_option maxRecDepth 100000 in
theorem Own.alloc {w wr : World} {v : Value} {l : List Nat} (h : Own w wr v l) (o : Obj) : Own w (wr.alloc o) v l := ⟨h.1.alloc o, h.2.alloc h.2.size o⟩
set_option maxRecDepth 100000 in
theorem Own.new {w wr : World} {v : Value} {l : List Nat} (h : Own w wr v l) : New w l (.returned v) wr := ⟨v, rfl, h.1, h.2⟩

set_option maxRecDepth 100000 in
theorem clone_any (w : World) (T : Nat → Prop) (A : Option Addr) (n c : Nat) (l : List Nat) (hr : RB w T A n l) (hn : n ≤ 140737488351232) :
    Calls Try.prog 57 #[.slice A n c] w (New w l) := by
  rcases A with _ | ad
  · have h0 : n = 0 := by
      rcases Nat.eq_zero_or_pos n with h0 | h0
      · exact h0
      · obtain ⟨_, e, _⟩ := hr.2.2 h0
        cases e
    subst h0
    have hk : l = [] := List.eq_nil_of_length_eq_zero hr.1
    subst hk
    clear hr
    have he := fun W : World => Lib.run_eql_slice_nil (P := Try.prog) W 57 5 none 0 c 0 0 Try.underlying57
    go_enter Try.func57, Try.ntmps57
    go_wp2
    go_ret
    exact (Own.nil_ w).new
  · have he := fun W : World => Lib.run_eql_slice_nil (P := Try.prog) W 57 5 (some ad) n c 0 0 Try.underlying57
    have HR := Lib.hid (hr.alloc (.cells #[] 5))
    have HO := Lib.hid (Own.made w)
    clear hr
    go_enter Try.func57, Try.ntmps57
    go_wp2_with (at_builtin; go_must (refine wpList_app rfl (.tmp 5) (.tmp 6) rfl _ 0 [] rfl HO.out.1 T (some ad) n c l rfl HR.out (by omega) ?_); intro v1 w2 hown hgrow; have HS := Lib.hid (Own.step HO.out hgrow hown); clear hown hgrow)
    go_ret
    exact HS.out.new

set_option maxRecDepth 100000 in
theorem wbytes_any (w : World) (S : Nat → Prop) (p : Option Nat) (ok : Bool) (l : List Nat) (h : Wr w S p ok l) (hl : l.length ≤ 140737488351232) :
    Calls Try.prog 32 #[ptr p] w (New w l) := by
  cases p with
  | none =>
    obtain ⟨_, rfl⟩ := h
    simp only [ptr, Option.map]
    go_enter Try.func32, Try.ntmps32
    go_wp2
    go_ret
    exact (Own.nil_ w).new
  | some g =>
    obtain ⟨_, v, n, hb, ho⟩ := h
    have hn := ho.len
    obtain ⟨A, c, rfl, _, _, hr⟩ := ho.reads
    have hc := hb.cell 1
    simp only [ptr, Option.map]
    have HC := Lib.hid (clone_any w S A n c l hr (by omega))
    clear hb hn ho hr
    go_enter Try.func32, Try.ntmps32
    go_wp2_with (go_at_call 57; refine HC.out.mono ?_; rintro e w' ⟨v, rfl, hv⟩; have HV := Lib.hid hv; clear hv)
    go_ret
    exact Own.new HV.out

set_option maxRecDepth 100000 in
theorem Wr.up {w : World} {S : Nat → Prop} {p : Option Nat} {ok : Bool} {l : List Nat} (h : Wr w S p ok l) : Wr w (fun b => S b ∧ b < w.heap.size) p ok l := Wr.mono h fun _ hb hs => ⟨hs, hb⟩
set_option maxRecDepth 100000 in
theorem Wr.alloc {w : World} {S : Nat → Prop} {p : Option Nat} {ok : Bool} {l : List Nat} (h : Wr w S p ok l) (o : Obj) : Wr (w.alloc o) (fun b => S b ∧ b < w.heap.size) p ok l :=
  Wr.keep (Wr.up h) (T := No) ((Fr.refl w No).alloc o) fun _ _ hn => hn
set_option maxRecDepth 100000 in
theorem Wrote.go {w w' : World} {B : Nat} {p : Option Nat} {l k : List Nat} (h : Wrote w (fun b => B ≤ b) p true l k w') (hB : B ≤ w.heap.size) : Wr w' (fun b => B ≤ b) p true (l ++ k) ∧ Below B w w' :=
  ⟨Wr.mono h.1 fun b _ hb => hb.elim id fun hb => by omega, h.2.below (fun _ hb => hb) hB⟩

end Go.Proofs.Ytiilhnedflmgoaa
