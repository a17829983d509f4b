/-
WalkA WalkB WalkC WalkD WalkE WalkF
-/
import Derived.Test.YtdhgbkibbileiaaGreatObjs
import Derived.Deep.DeepMust
import Derived.Deep.RegionLaw
import Derived.Deep.DrawnRows
import Derived.Lib.SliceRun
set_option maxRecDepth 100000
namespace Go.Proofs.YtdhgbkibbileiaaGreat
open Go.RowKit
theorem writable_any (w : World) (S : Nat → Prop) (p : Option Nat) (ok : Bool) (l : List Nat) (h : Wr w S p ok l) :
  Calls Tryz.prog 95 #[ptr p] w fun e w' => e = .returned (.bool ok) ∧ w = w' := by
 cases p with
 | none =>
   obtain ⟨rfl, _⟩ := h
   simp only [ptr, Option.map]
   go_enter Tryz.func95, Tryz.ntmps95
   go_wp2
   go_ret
   exact ⟨rfl, rfl⟩
 | some g =>
   obtain ⟨_, v, n, hb, _⟩ := h
   have hc := hb.cell 0
   simp only [ptr, Option.map]
   clear hb
   go_enter Tryz.func95, Tryz.ntmps95
   go_wp2
   go_ret
   exact ⟨rfl, rfl⟩
theorem newWriter_any (w : World) :
  Calls Tryz.prog 39 #[] w fun e w' => e = .returned (ptr (some w.heap.size)) ∧ Wr w' (fun b => w.heap.size ≤ b) (some w.heap.size) true [] ∧ Below w.heap.size w w' := by
 go_enter Tryz.func39, Tryz.ntmps39
 go_wp2
 go_ret
 exact ⟨rfl, ⟨Nat.le_refl _, _, 0, Blk.new w 117 _, (Ow.nil_ _ _)⟩, (Below.refl _ _).alloc (Nat.le_refl _) _⟩
theorem wlen_any (w : World) (S : Nat → Prop) (p : Option Nat) (ok : Bool) (l : List Nat) (h : Wr w S p ok l) :
  Calls Tryz.prog 42 #[ptr p] w fun e w' => e = .returned (.int .i64 ((l.length : Nat) : Int)) ∧ w = w' := by
 cases p with
 | none =>
   obtain ⟨_, rfl⟩ := h
   simp only [ptr, Option.map]
   go_enter Tryz.func42, Tryz.ntmps42
   go_wp2
   go_ret
   exact ⟨rfl, rfl⟩
 | some g =>
   obtain ⟨_, v, n, hb, ho⟩ := h
   have hn := ho.len
   obtain ⟨A, c, rfl, _, _, _⟩ := ho.reads
   have hc := hb.cell 1
   simp only [ptr, Option.map]
   rw [hn]
   clear hb hn ho
   go_enter Tryz.func42, Tryz.ntmps42
   go_wp2
   go_ret
   exact ⟨rfl, rfl⟩
theorem push {w w1 : World} {S : Nat → Prop} {g n n' : Nat} {ok : Bool} {v v' : Value} {l l' : List Nat} (hg : S g) (hb : Blk w g 117 #[.bool ok, v]) (ho : Ow w S v n l)
  (hgrow : w.grownBy w1 v.ownBlock) (hn : Ow w1 (fun b => S b ∨ w.heap.size ≤ b) v' n' l') :
  Blk (w1.setCell ⟨g, 1, none⟩ v') g 117 #[.bool ok, v'] ∧ Ow (w1.setCell ⟨g, 1, none⟩ v') (Up S w) v' n' l' ∧ Fr w (w1.setCell ⟨g, 1, none⟩ v') S := by
 have hb1 : Blk w1 g 117 #[.bool ok, v] := hb.grown hgrow (hb.own_ne ho.1 (by decide))
 refine ⟨by simpa using hb1.set_ 1 v', hn.far hb1 (by decide) v', ?_⟩
 exact ((Fr.refl w S).grown hgrow fun k hk => Or.inl (ho.2.2 k hk)).setCell (Or.inl hg) _
theorem push_cell {w w1 : World} {S : Nat → Prop} {g n : Nat} {ok : Bool} {v : Value} {l : List Nat} (hb : Blk w g 117 #[.bool ok, v]) (ho : Ow w S v n l) (hgrow : w.grownBy w1 v.ownBlock) :
  w1.cell? ⟨g, 1, none⟩ = some v ∧ w1.frozen? ⟨g, 1, none⟩ = false := by
 have hb1 : Blk w1 g 117 #[.bool ok, v] := hb.grown hgrow (hb.own_ne ho.1 (by decide))
 exact ⟨by simpa using hb1.cell 1, hb1.frozen 1⟩
theorem Up.up {S : Nat → Prop} {w w' : World} (hs : w.heap.size ≤ w'.heap.size) : ∀ b, Up (Up S w) w' b → Up S w b := by
 intro b hb
 rcases hb with hb | hb
 ·exact hb
 ·exact Or.inr (by omega)
def Wi (w0 : World) (S : Nat → Prop) (g : Nat) (l : List Nat) (w : World) : Prop :=
 S g ∧ ∃ v n, Blk w g 117 #[.bool true, v] ∧ Ow w (Up S w0) v n l ∧ Fr w0 w S
theorem Wi.start {w : World} {S : Nat → Prop} {g : Nat} {l : List Nat} (h : Wr w S (some g) true l) : Wi w S g l w := by
 obtain ⟨h1, v, n, h2, h3⟩ := h
 exact ⟨h1, v, n, h2, h3.mono fun b _ hb => Or.inl hb, Fr.refl _ _⟩
theorem Wi.done {w w' : World} {S : Nat → Prop} {g : Nat} {l : List Nat} (h : Wi w S g l w') : Wr w' (Up S w) (some g) true l ∧ Fr w w' S := by
 obtain ⟨h1, v, n, h2, h3, h4⟩ := h
 exact ⟨⟨Or.inl h1, v, n, h2, h3⟩, h4⟩
theorem Wi.drew {w w' : World} {S : Nat → Prop} {g : Nat} {l : List Nat} (h : Wi w S g l w') : Wi w S g l w'.drew := by
 obtain ⟨h1, v, n, h2, h3, h4⟩ := h
 exact ⟨h1, v, n, h2, h3, h4.drew⟩
theorem Wi.step {w0 w w1 : World} {S : Nat → Prop} {g n n' : Nat} {v v' : Value} {l l' : List Nat} (hg : S g) (hb : Blk w g 117 #[.bool true, v]) (ho : Ow w (Up S w0) v n l) (hf : Fr w0 w S)
  (hgrow : w.grownBy w1 v.ownBlock) (hn : Ow w1 (fun b => Up S w0 b ∨ w.heap.size ≤ b) v' n' l') : Wi w0 S g l' (w1.setCell ⟨g, 1, none⟩ v') := by
 obtain ⟨h1, h2, h3⟩ := push (S := Up S w0) (Or.inl hg) hb ho hgrow hn
 refine ⟨hg, v', n', h1, h2.mono fun b _ hb => Up.up hf.size b hb, ?_⟩
 exact hf.trans h3 fun b hb => hb
theorem one_of (w : World) (v : Int) (x : Nat) (hv : v = (x : Int)) (hx : x < 256) : RB (w.alloc (.cells #[.int .u8 v] 5)) (fun _ => True) (some ⟨w.heap.size, 0, none⟩) 1 [x] := by
 subst hv
 exact one_rb w x hx _ trivial
set_option maxHeartbeats 1000000 in
theorem wuint_some (w : World) (S : Nat → Prop) (g : Nat) (l : List Nat) (x : Nat) (hx : x < 18446744073709551616) (hl : l.length ≤ 1099511627776) (h : Wr w S (some g) true l) :
  Calls Tryz.prog 106 #[ptr (some g), .int .u64 (x : Int)] w fun e w' => e = .returned (.tuple #[]) ∧ Wr w' (Up S w) (some g) true (l ++ Cd.vi x) ∧ Fr w w' S := by
 have HW := Lib.hid (writable_any w S (some g) true l h)
 have HI := Lib.hid (Wi.start h)
 have h10 := Cd.vi_len10 x hx
 clear h
 simp only [ptr, Option.map] at HW ⊢
 go_enter Tryz.func106, Tryz.ntmps106
 go_wp2_with (go_at_call 95; refine HW.out.mono ?_; rintro e w' ⟨rfl, rfl⟩)
 go_loopw [1] (fun v wr => ∃ (y : Nat) (l' : List Nat), v = .int .u64 (y : Int) ∧ y ≤ x ∧ Wi w S g l' wr ∧ l' ++ Cd.vi y = l ++ Cd.vi x) (fun v _ => (intOf v).toNat)
 case atStart => exact ⟨x, l, rfl, Nat.le_refl _, HI.out, rfl⟩
 case round =>
  obtain ⟨y, l', rfl, hy, hi, hv⟩ := hrel
  obtain ⟨hg, v, n, hb, ho, hf⟩ := hi
  have hn : l'.length ≤ 1099511627776 + 10 := by
   have := congrArg List.length hv
   simp only [List.length_append] at this
   omega
  have hln := ho.len
  have hn2 : n ≤ 1099511627776 + 10 := by omega
  have hc := (hb.alloc (.cells #[.int .u8 ((128 + y % 128 : Nat) : Int)] 5)).cell 1
  have HV := Lib.hid hv
  have HO := Lib.hid ho
  have HB := Lib.hid hb
  have HF := Lib.hid hf
  have hcc := hb.cell 1
  clear hv ho hb hf hln hc
  by_cases hlt : 128 ≤ y
  ·go_wp2_with (at_builtin; go_must (refine wpList_app rfl (.tmp 15) (.tmp 20) rfl v n l' rfl (HO.out.alloc _) (fun _ => True) (some ⟨wr.heap.size, 0, none⟩) 1 1 [128 + y % 128] rfl (one_of _ _ _ (by omega) (by omega)) (by omega) ?_); intro v1 w1 hown hgrow; obtain ⟨A1, cc1, rfl, _, _, _⟩ := hown.reads; obtain ⟨hc1, hf1⟩ := push_cell (HB.out.alloc _) (HO.out.alloc _) hgrow; have HS := Lib.hid (Wi.step hg (HB.out.alloc _) (HO.out.alloc _) (HF.out.alloc _) hgrow hown); clear hown hgrow)
   go_roundw
   case rel =>
    refine ⟨y / 128, l' ++ [128 + y % 128], by go_num, by omega, HS.out, ?_⟩
    have hv := HV.out
    rw [Cd.vi_big (by omega)] at hv
    rw [← hv]
    simp
   case measure => simp [intOf]; omega
  ·go_wp2_with (at_builtin; go_must (refine wpList_app rfl (.tmp 28) (.tmp 31) rfl v n l' rfl (HO.out.alloc _) (fun _ => True) (some ⟨wr.heap.size, 0, none⟩) 1 1 [y] rfl (one_of _ _ _ (by omega) (by omega)) (by omega) ?_); intro v1 w1 hown hgrow; obtain ⟨A1, cc1, rfl, _, _, _⟩ := hown.reads; obtain ⟨hc1, hf1⟩ := push_cell (HB.out.alloc _) (HO.out.alloc _) hgrow; have HS := Lib.hid (Wi.step hg (HB.out.alloc _) (HO.out.alloc _) (HF.out.alloc _) hgrow hown); clear hown hgrow)
   go_end0
   have hv := HV.out
   rw [Cd.vi_small (by omega)] at hv
   rw [← hv]
   exact ⟨rfl, Wi.done HS.out⟩
end Go.Proofs.YtdhgbkibbileiaaGreat
set_option maxRecDepth 100000
namespace Go.Proofs.YtdhgbkibbileiaaGreat
open Go.RowKit
theorem len8 (w : World) : Calls Tryz.prog 128 #[.int .u64 255] w fun e w' => e = .returned (.int .i64 8) ∧ w = w' := by
 go_enter Tryz.func128, Tryz.ntmps128
 go_wp2
 go_ret
 exact ⟨by kernel_rfl, rfl⟩
theorem len16 (w : World) : Calls Tryz.prog 128 #[.int .u64 65535] w fun e w' => e = .returned (.int .i64 16) ∧ w = w' := by
 go_enter Tryz.func128, Tryz.ntmps128
 go_wp2
 go_ret
 exact ⟨by kernel_rfl, rfl⟩
theorem size8 (w : World) : Calls Tryz.prog 104 #[] w fun e w' => e = .returned (.int .i64 1) ∧ w = w' := by
 go_enter Tryz.func104, Tryz.ntmps104
 go_wp2_with (go_at_call 128; refine (len8 _).mono ?_; rintro e w' ⟨rfl, rfl⟩)
 go_ret
 exact ⟨rfl, rfl⟩
theorem size16 (w : World) : Calls Tryz.prog 98 #[] w fun e w' => e = .returned (.int .i64 2) ∧ w = w' := by
 go_enter Tryz.func98, Tryz.ntmps98
 go_wp2_with (go_at_call 128; refine (len16 _).mono ?_; rintro e w' ⟨rfl, rfl⟩)
 go_ret
 exact ⟨rfl, rfl⟩
theorem shr_byte (x k : Nat) : IntKind.u8.wrap ((x : Int) / 2 ^ (8 * (k : Int)).toNat) = ((x / 256 ^ k % 256 : Nat) : Int) := by
 have h2 : (8 * (k : Int)).toNat = 8 * k := by omega
 have h4 : ((x : Int) / 2 ^ (8 * k)) = ((x / 256 ^ k : Nat) : Int) := by
  have : (2 : Int) ^ (8 * k) = ((256 ^ k : Nat) : Int) := by
   rw [Int.pow_mul]
   simp
  rw [this]
  simp
 rw [h2, h4]
 simp only [IntKind.wrap_u8]
 omega
theorem shr_u8 (x k : Nat) (hx : x < 256) : (x : Int) / 2 ^ (8 * (k : Int)).toNat = ((x / 256 ^ k % 256 : Nat) : Int) := by
 have h2 : (8 * (k : Int)).toNat = 8 * k := by omega
 have h4 : ((x : Int) / 2 ^ (8 * k)) = ((x / 256 ^ k : Nat) : Int) := by
  have : (2 : Int) ^ (8 * k) = ((256 ^ k : Nat) : Int) := by
   rw [Int.pow_mul]
   simp
  rw [this]
  simp
 rw [h2, h4, Nat.mod_eq_of_lt (Nat.lt_of_le_of_lt (Nat.div_le_self _ _) hx)]
theorem wrap8 (k : Nat) (h : k ≤ 8) : IntKind.i64.wrap (8 * (k : Int)) = 8 * (k : Int) := IntWalk.i64_in _ (by omega)
set_option maxHeartbeats 1000000 in
theorem wfix8_some (w : World) (S : Nat → Prop) (g : Nat) (l : List Nat) (x : Nat) (hx : x < 256) (hl : l.length ≤ 1099511627776) (h : Wr w S (some g) true l) :
  Calls Tryz.prog 68 #[ptr (some g), .int .u8 (x : Int)] w fun e w' => e = .returned (.tuple #[]) ∧ Wr w' (Up S w) (some g) true (l ++ Cd.fixB 1 x) ∧ Fr w w' S := by
 have HW := Lib.hid (writable_any w S (some g) true l h)
 have HI := Lib.hid (Wi.start h)
 clear h
 simp only [ptr, Option.map] at HW ⊢
 go_enter Tryz.func68, Tryz.ntmps68
 go_wp2_with (first | (go_at_call 95; refine HW.out.mono ?_; rintro e w' ⟨rfl, rfl⟩) | (go_at_call 104; refine (size8 _).mono ?_; rintro e w' ⟨rfl, rfl⟩))
 go_loopw [9] (fun v wr => ∃ k : Nat, v = .int .i64 (k : Int) ∧ k ≤ 1 ∧ Wi w S g (l ++ Cd.fixB k x) wr) (fun v _ => 1 - (intOf v).toNat)
 case atStart => exact ⟨0, rfl, by omega, by simpa [Cd.fixB] using HI.out⟩
 case round =>
  obtain ⟨k, rfl, hk, hi⟩ := hrel
  obtain ⟨hg, v, n, hb, ho, hf⟩ := hi
  have hln := ho.len
  simp only [List.length_append, Cd.fixB_len] at hln
  have hn2 : n ≤ 1099511627776 + 10 := by omega
  have HO := Lib.hid ho
  have HB := Lib.hid hb
  have HF := Lib.hid hf
  have hcc : wr.cell? ⟨g, 1, none⟩ = some v := by simpa using hb.cell 1
  have hcc2 : wr.frozen? ⟨g, 1, none⟩ = false := hb.frozen 1
  have hgl : g < wr.heap.size := hb.lt
  clear ho hb hf hln
  by_cases hlt : k < 1
  ·have hwr := wrap8 k (by omega)
   go_wp2
   go_region_law ((refine step_app rfl (.tmp 16) (.tmp 21) rfl v n (l ++ Cd.fixB k x) rfl (by first | exact (HO.out.alloc _).drew | exact HO.out.drew.alloc _) (fun _ => True) (some ⟨wr.heap.size, 0, none⟩) 1 1 [x / 256 ^ k % 256] rfl (by exact one_of _ _ _ (by exact shr_u8 x k hx) (by omega)) (by omega) ?_; intro v1 w1 hown hgrow; obtain ⟨A1, cc1, rfl, _, _, _⟩ := hown.reads; obtain ⟨hc1, hf1⟩ := push_cell (HB.out.drew.alloc _) (HO.out.drew.alloc _) hgrow; have HS := Lib.hid (Wi.step hg (HB.out.drew.alloc _) (HO.out.drew.alloc _) (HF.out.drew.alloc _) hgrow hown); clear hown hgrow))
   all_goals
    go_wp2
    go_roundw
    case rel => exact ⟨k + 1, by go_num, by omega, by rw [Cd.fixB_snoc, ← List.append_assoc]; exact HS.out⟩
    case measure => simp [intOf]; omega
  ·obtain rfl : k = 1 := by omega
   go_wp2
   go_end0
   exact ⟨rfl, Wi.done ⟨hg, v, n, HB.out, HO.out, HF.out⟩⟩
set_option maxHeartbeats 1000000 in
theorem wfix16_some (w : World) (S : Nat → Prop) (g : Nat) (l : List Nat) (x : Nat) (hl : l.length ≤ 1099511627776) (h : Wr w S (some g) true l) :
  Calls Tryz.prog 94 #[ptr (some g), .int .u16 (x : Int)] w fun e w' => e = .returned (.tuple #[]) ∧ Wr w' (Up S w) (some g) true (l ++ Cd.fixB 2 x) ∧ Fr w w' S := by
 have HW := Lib.hid (writable_any w S (some g) true l h)
 have HI := Lib.hid (Wi.start h)
 clear h
 simp only [ptr, Option.map] at HW ⊢
 go_enter Tryz.func94, Tryz.ntmps94
 go_wp2_with (first | (go_at_call 95; refine HW.out.mono ?_; rintro e w' ⟨rfl, rfl⟩) | (go_at_call 98; refine (size16 _).mono ?_; rintro e w' ⟨rfl, rfl⟩))
 go_loopw [9] (fun v wr => ∃ k : Nat, v = .int .i64 (k : Int) ∧ k ≤ 2 ∧ Wi w S g (l ++ Cd.fixB k x) wr) (fun v _ => 2 - (intOf v).toNat)
 case atStart => exact ⟨0, rfl, by omega, by simpa [Cd.fixB] using HI.out⟩
 case round =>
  obtain ⟨k, rfl, hk, hi⟩ := hrel
  obtain ⟨hg, v, n, hb, ho, hf⟩ := hi
  have hln := ho.len
  simp only [List.length_append, Cd.fixB_len] at hln
  have hn2 : n ≤ 1099511627776 + 10 := by omega
  have HO := Lib.hid ho
  have HB := Lib.hid hb
  have HF := Lib.hid hf
  have hcc : wr.cell? ⟨g, 1, none⟩ = some v := by simpa using hb.cell 1
  have hcc2 : wr.frozen? ⟨g, 1, none⟩ = false := hb.frozen 1
  have hgl : g < wr.heap.size := hb.lt
  clear ho hb hf hln
  by_cases hlt : k < 2
  ·have hwr := wrap8 k (by omega)
   go_wp2
   go_region_law ((refine step_app rfl (.tmp 16) (.tmp 22) rfl v n (l ++ Cd.fixB k x) rfl (by first | exact (HO.out.alloc _).drew | exact HO.out.drew.alloc _) (fun _ => True) (some ⟨wr.heap.size, 0, none⟩) 1 1 [x / 256 ^ k % 256] rfl (by exact one_of _ _ _ (by exact shr_byte x k) (by omega)) (by omega) ?_; intro v1 w1 hown hgrow; obtain ⟨A1, cc1, rfl, _, _, _⟩ := hown.reads; obtain ⟨hc1, hf1⟩ := push_cell (HB.out.drew.alloc _) (HO.out.drew.alloc _) hgrow; have HS := Lib.hid (Wi.step hg (HB.out.drew.alloc _) (HO.out.drew.alloc _) (HF.out.drew.alloc _) hgrow hown); clear hown hgrow))
   all_goals
    go_wp2
    go_roundw
    case rel => exact ⟨k + 1, by go_num, by omega, by rw [Cd.fixB_snoc, ← List.append_assoc]; exact HS.out⟩
    case measure => simp [intOf]; omega
  ·obtain rfl : k = 2 := by omega
   go_wp2
   go_end0
   exact ⟨rfl, Wi.done ⟨hg, v, n, HB.out, HO.out, HF.out⟩⟩
end Go.Proofs.YtdhgbkibbileiaaGreat
set_option maxRecDepth 100000
namespace Go.Proofs.YtdhgbkibbileiaaGreat
open Go.RowKit
def put (ok : Bool) (l k : List Nat) : List Nat := if ok then l ++ k else l
def Wrote (w : World) (S : Nat → Prop) (p : Option Nat) (ok : Bool) (l k : List Nat) (w' : World) : Prop := Wr w' (Up S w) p ok (put ok l k) ∧ Fr w w' S
theorem Wrote.of_true {w w' : World} {S : Nat → Prop} {g : Nat} {l k : List Nat} (h : Wr w' (Up S w) (some g) true (l ++ k) ∧ Fr w w' S) : Wrote w S (some g) true l k w' := h
theorem Wrote.of_false {w : World} {S : Nat → Prop} {p : Option Nat} {l : List Nat} (h : Wr w S p false l) (k : List Nat) : Wrote w S p false l k w := ⟨Wr.mono h fun _ _ hb => Or.inl hb, Fr.refl _ _⟩
theorem some_of_true {w : World} {S : Nat → Prop} {p : Option Nat} {l : List Nat} (h : Wr w S p true l) : ∃ g, p = some g := by
 cases p with
 | none => exact absurd h.1 (by simp)
 | some g => exact ⟨g, rfl⟩
def bs (s : ByteArray) : List Nat := s.data.toList.map UInt8.toNat
theorem bs_len (s : ByteArray) : (bs s).length = s.size := by simp [bs]
theorem bs_lt (s : ByteArray) : ∀ x ∈ bs s, x < 256 := by
 intro x hx
 simp only [bs, List.mem_map] at hx
 obtain ⟨b, _, rfl⟩ := hx
 exact b.toNat_lt
theorem bs_cells (s : ByteArray) : Lib.strCells s = u8s (bs s) := by simp [Lib.strCells, u8s, bs, Function.comp_def]
def strOf (l : List Nat) : ByteArray := ⟨(l.map UInt8.ofNat).toArray⟩
theorem bs_strOf (l : List Nat) (h : ∀ x ∈ l, x < 256) : bs (strOf l) = l := by
 unfold strOf bs
 simp only [List.map_map]
 conv => rhs; rw [← List.map_id l]
 refine List.map_congr_left fun x hx => ?_
 have := h x hx
 simp
 omega
theorem wuint_no (w : World) (S : Nat → Prop) (p : Option Nat) (l : List Nat) (x : Int) (h : Wr w S p false l) :
  Calls Tryz.prog 106 #[ptr p, .int .u64 x] w fun e w' => e = .returned (.tuple #[]) ∧ w = w' := by
 have HW := Lib.hid (writable_any w S p false l h)
 clear h
 go_enter Tryz.func106, Tryz.ntmps106
 go_wp2_with (go_at_call 95; refine HW.out.mono ?_; rintro e w' ⟨rfl, rfl⟩)
 refine bodyPost_ret (results_none rfl _ _ _) rfl ?_
 exact ⟨rfl, rfl⟩
theorem wfix8_no (w : World) (S : Nat → Prop) (p : Option Nat) (l : List Nat) (x : Int) (h : Wr w S p false l) :
  Calls Tryz.prog 68 #[ptr p, .int .u8 x] w fun e w' => e = .returned (.tuple #[]) ∧ w = w' := by
 have HW := Lib.hid (writable_any w S p false l h)
 clear h
 go_enter Tryz.func68, Tryz.ntmps68
 go_wp2_with (go_at_call 95; refine HW.out.mono ?_; rintro e w' ⟨rfl, rfl⟩)
 refine bodyPost_ret (results_none rfl _ _ _) rfl ?_
 exact ⟨rfl, rfl⟩
theorem wfix16_no (w : World) (S : Nat → Prop) (p : Option Nat) (l : List Nat) (x : Int) (h : Wr w S p false l) :
  Calls Tryz.prog 94 #[ptr p, .int .u16 x] w fun e w' => e = .returned (.tuple #[]) ∧ w = w' := by
 have HW := Lib.hid (writable_any w S p false l h)
 clear h
 go_enter Tryz.func94, Tryz.ntmps94
 go_wp2_with (go_at_call 95; refine HW.out.mono ?_; rintro e w' ⟨rfl, rfl⟩)
 refine bodyPost_ret (results_none rfl _ _ _) rfl ?_
 exact ⟨rfl, rfl⟩
theorem wuint_any (w : World) (S : Nat → Prop) (p : Option Nat) (ok : Bool) (l : List Nat) (x : Nat) (hx : x < 18446744073709551616) (hl : l.length ≤ 1099511627776) (h : Wr w S p ok l) :
  Calls Tryz.prog 106 #[ptr p, .int .u64 (x : Int)] w fun e w' => e = .returned (.tuple #[]) ∧ Wrote w S p ok l (Cd.vi x) w' := by
 cases ok with
 | true =>
   obtain ⟨g, rfl⟩ := some_of_true h
   exact (wuint_some w S g l x hx hl h).mono fun e w' hh => ⟨hh.1, Wrote.of_true hh.2⟩
 | false => exact (wuint_no w S p l _ h).mono fun e w' hh => ⟨hh.1, by rw [← hh.2]; exact Wrote.of_false h _⟩
theorem wfix8_any (w : World) (S : Nat → Prop) (p : Option Nat) (ok : Bool) (l : List Nat) (x : Nat) (hx : x < 256) (hl : l.length ≤ 1099511627776) (h : Wr w S p ok l) :
  Calls Tryz.prog 68 #[ptr p, .int .u8 (x : Int)] w fun e w' => e = .returned (.tuple #[]) ∧ Wrote w S p ok l (Cd.fixB 1 x) w' := by
 cases ok with
 | true =>
   obtain ⟨g, rfl⟩ := some_of_true h
   exact (wfix8_some w S g l x hx hl h).mono fun e w' hh => ⟨hh.1, Wrote.of_true hh.2⟩
 | false => exact (wfix8_no w S p l _ h).mono fun e w' hh => ⟨hh.1, by rw [← hh.2]; exact Wrote.of_false h _⟩
theorem wfix16_any (w : World) (S : Nat → Prop) (p : Option Nat) (ok : Bool) (l : List Nat) (x : Nat) (hl : l.length ≤ 1099511627776) (h : Wr w S p ok l) :
  Calls Tryz.prog 94 #[ptr p, .int .u16 (x : Int)] w fun e w' => e = .returned (.tuple #[]) ∧ Wrote w S p ok l (Cd.fixB 2 x) w' := by
 cases ok with
 | true =>
   obtain ⟨g, rfl⟩ := some_of_true h
   exact (wfix16_some w S g l x hl h).mono fun e w' hh => ⟨hh.1, Wrote.of_true hh.2⟩
 | false => exact (wfix16_no w S p l _ h).mono fun e w' hh => ⟨hh.1, by rw [← hh.2]; exact Wrote.of_false h _⟩
theorem wu8_any (w : World) (S : Nat → Prop) (p : Option Nat) (ok : Bool) (l : List Nat) (x : Nat) (hx : x < 256) (hl : l.length ≤ 1099511627776) (h : Wr w S p ok l) :
  Calls Tryz.prog 40 #[ptr p, .int .u8 (x : Int)] w fun e w' => e = .returned (.tuple #[]) ∧ Wrote w S p ok l (Cd.fixB 1 x) w' := by
 have HC := Lib.hid (wfix8_any w S p ok l x hx hl h)
 clear h
 go_enter Tryz.func40, Tryz.ntmps40
 go_wp2_with (go_at_call 68; refine HC.out.mono ?_; rintro e w' ⟨rfl, hw⟩; have HW := Lib.hid hw; clear hw)
 go_end0
 exact ⟨rfl, HW.out⟩
theorem wu16_any (w : World) (S : Nat → Prop) (p : Option Nat) (ok : Bool) (l : List Nat) (x : Nat) (hl : l.length ≤ 1099511627776) (h : Wr w S p ok l) :
  Calls Tryz.prog 43 #[ptr p, .int .u16 (x : Int)] w fun e w' => e = .returned (.tuple #[]) ∧ Wrote w S p ok l (Cd.fixB 2 x) w' := by
 have HC := Lib.hid (wfix16_any w S p ok l x hl h)
 clear h
 go_enter Tryz.func43, Tryz.ntmps43
 go_wp2_with (go_at_call 94; refine HC.out.mono ?_; rintro e w' ⟨rfl, hw⟩; have HW := Lib.hid hw; clear hw)
 go_end0
 exact ⟨rfl, HW.out⟩
end Go.Proofs.YtdhgbkibbileiaaGreat
set_option maxRecDepth 100000
namespace Go.Proofs.YtdhgbkibbileiaaGreat
open Go.RowKit
theorem wtext_some (w : World) (S : Nat → Prop) (g : Nat) (l : List Nat) (s : ByteArray) (hs : s.size ≤ 1099511627776) (hl : l.length ≤ 1099511627776) (h : Wr w S (some g) true l) :
  Calls Tryz.prog 109 #[ptr (some g), .string s] w fun e w' => e = .returned (.tuple #[]) ∧ Wr w' (Up S w) (some g) true (l ++ Cd.tx (bs s)) ∧ Fr w w' S := by
 have HW := Lib.hid (writable_any w S (some g) true l h)
 have HC := Lib.hid (wuint_some w S g l s.size (by omega) hl h)
 have hSg : S g := h.1
 have h10 := Cd.vi_len10 s.size (by omega)
 clear h
 simp only [ptr, Option.map] at HW HC ⊢
 go_enter Tryz.func109, Tryz.ntmps109
 go_wp2_with (go_at_call 95; refine HW.out.mono ?_; rintro e w' ⟨rfl, rfl⟩)
 go_wp2_with fail
 refine HC.out.mono ?_
 rintro e w1 ⟨rfl, hw, hf⟩
 obtain ⟨_, v, n, hb, ho⟩ := hw
 have hln := ho.len
 rw [List.length_append] at hln
 have hn2 : n ≤ 1099511627776 + 10 := by omega
 have HB := Lib.hid hb
 have HO := Lib.hid ho
 have HF := Lib.hid hf
 have hcc : w1.cell? ⟨g, 1, none⟩ = some v := by simpa using hb.cell 1
 clear hb ho hf hln
 go_wp2_with (at_builtin; go_must (refine wpList_app_str rfl (.tmp 16) (.tmp 17) rfl v n (l ++ Cd.vi s.size) rfl HO.out s (bs s) rfl (bs_cells s) (bs_lt s) (by omega) ?_); intro v1 w2 hown hgrow; obtain ⟨A1, cc1, rfl, _, _, _⟩ := hown.reads; obtain ⟨hc1, hf1⟩ := push_cell HB.out HO.out hgrow; have HS := Lib.hid (Wi.step hSg HB.out HO.out HF.out hgrow hown); clear hown hgrow)
 go_end0
 have hd := Wi.done HS.out
 refine ⟨rfl, ?_⟩
 rw [Cd.tx, bs_len, ← List.append_assoc]
 exact hd
theorem wtext_any (w : World) (S : Nat → Prop) (p : Option Nat) (ok : Bool) (l : List Nat) (s : ByteArray) (hs : s.size ≤ 1099511627776) (hl : l.length ≤ 1099511627776) (h : Wr w S p ok l) :
  Calls Tryz.prog 109 #[ptr p, .string s] w fun e w' => e = .returned (.tuple #[]) ∧ Wrote w S p ok l (Cd.tx (bs s)) w' := by
 cases ok with
 | true =>
   obtain ⟨g, rfl⟩ := some_of_true h
   exact (wtext_some w S g l s hs hl h).mono fun e w' hh => ⟨hh.1, Wrote.of_true hh.2⟩
 | false =>
   have HW := Lib.hid (writable_any w S p false l h)
   have HR := Lib.hid (Wrote.of_false h (Cd.tx (bs s)))
   clear h
   go_enter Tryz.func109, Tryz.ntmps109
   go_wp2_with (go_at_call 95; refine HW.out.mono ?_; rintro e w' ⟨rfl, rfl⟩)
   refine bodyPost_ret (results_none rfl _ _ _) rfl ?_
   exact ⟨rfl, HR.out⟩
theorem wraw_any (w : World) (S T : Nat → Prop) (p : Option Nat) (ok : Bool) (l : List Nat) (A : Option Addr) (m c : Nat) (k : List Nat) (hr : RB w T A m k) (hm : m ≤ 1099511627776) (hl : l.length ≤ 1099511627776) (h : Wr w S p ok l) :
  Calls Tryz.prog 44 #[ptr p, .slice A m c] w fun e w' => e = .returned (.tuple #[]) ∧ Wrote w S p ok l k w' := by
 have HW := Lib.hid (writable_any w S p ok l h)
 cases ok with
 | true =>
   obtain ⟨g, rfl⟩ := some_of_true h
   obtain ⟨hSg, v, n, hb, ho⟩ := h
   have hln := ho.len
   have hn2 : n ≤ 1099511627776 + 10 := by omega
   have HB := Lib.hid hb
   have HO := Lib.hid ho
   have HR := Lib.hid hr
   have hcc : w.cell? ⟨g, 1, none⟩ = some v := by simpa using hb.cell 1
   clear hb ho hln hr
   simp only [ptr, Option.map] at HW ⊢
   go_enter Tryz.func44, Tryz.ntmps44
   go_wp2_with (first | (go_at_call 95; refine HW.out.mono ?_; rintro e w' ⟨rfl, rfl⟩) | (at_builtin; go_must (refine wpList_app rfl (.tmp 11) (.tmp 12) rfl v n l rfl HO.out T A m c k rfl HR.out (by omega) ?_); intro v1 w2 hown hgrow; obtain ⟨A1, cc1, rfl, _, _, _⟩ := hown.reads; obtain ⟨hc1, hf1⟩ := push_cell HB.out HO.out hgrow; have HS := Lib.hid (push hSg HB.out HO.out hgrow hown); clear hown hgrow))
   go_end0
   obtain ⟨h1, h2, h3⟩ := HS.out
   exact ⟨rfl, Wrote.of_true ⟨⟨Or.inl hSg, _, _, h1, h2⟩, h3⟩⟩
 | false =>
   have HR := Lib.hid (Wrote.of_false h k)
   clear h hr
   go_enter Tryz.func44, Tryz.ntmps44
   go_wp2_with (go_at_call 95; refine HW.out.mono ?_; rintro e w' ⟨rfl, rfl⟩)
   refine bodyPost_ret (results_none rfl _ _ _) rfl ?_
   exact ⟨rfl, HR.out⟩
def New (w : World) (l : List Nat) (e : Ending) (w' : World) : Prop := ∃ v, e = .returned v ∧ Ow w' (fun b => w.heap.size ≤ b) v l.length l ∧ Below w.heap.size w w'
def Own (w wr : World) (v : Value) (l : List Nat) : Prop := Ow wr (fun b => w.heap.size ≤ b) v l.length l ∧ Below w.heap.size w wr
theorem Own.nil_ (w : World) : Own w w (.slice none 0 0) [] := ⟨Ow.nil_ _ _, Below.refl _ _⟩
theorem Own.made (w : World) : Own w (w.alloc (.cells #[] 5)) (.slice (some ⟨w.heap.size, 0, none⟩) 0 0) [] := ⟨Ow.made _ _ (Nat.le_refl _), (Below.refl _ _).alloc (Nat.le_refl _) _⟩
theorem Own.step {w wr w1 : World} {v v' : Value} {n' : Nat} {l l' : List Nat} (h : Own w wr v l) (hgrow : wr.grownBy w1 v.ownBlock) (hn : Ow w1 (fun b => w.heap.size ≤ b ∨ wr.heap.size ≤ b) v' n' l') : Own w w1 v' l' := by
 have hs := h.2.size
 have hl := hn.len
 subst hl
 exact ⟨hn.mono fun b _ hb => by omega, h.2.grown hgrow hs fun k hk => h.1.2.2 k hk⟩
theorem Own.alloc {w wr : World} {v : Value} {l : List Nat} (h : Own w wr v l) (o : Obj) : Own w (wr.alloc o) v l := ⟨h.1.alloc o, h.2.alloc h.2.size o⟩
theorem Own.new {w wr : World} {v : Value} {l : List Nat} (h : Own w wr v l) : New w l (.returned v) wr := ⟨v, rfl, h.1, h.2⟩
theorem clone_any (w : World) (T : Nat → Prop) (A : Option Addr) (n c : Nat) (l : List Nat) (hr : RB w T A n l) (hn : n ≤ 140737488351232) :
  Calls Tryz.prog 50 #[.slice A n c] w (New w l) := by
 rcases A with _ | ad
 ·have h0 : n = 0 := by
   rcases Nat.eq_zero_or_pos n with h0 | h0
   ·exact h0
   ·obtain ⟨_, e, _⟩ := hr.2.2 h0
    cases e
  subst h0
  have hk : l = [] := List.eq_nil_of_length_eq_zero hr.1
  subst hk
  clear hr
  have he := fun W : World => Lib.run_eql_slice_nil (P := Tryz.prog) W 24 5 none 0 c 0 0 Tryz.underlying24
  go_enter Tryz.func50, Tryz.ntmps50
  go_wp2
  go_ret
  exact (Own.nil_ w).new
 ·have he := fun W : World => Lib.run_eql_slice_nil (P := Tryz.prog) W 24 5 (some ad) n c 0 0 Tryz.underlying24
  have HR := Lib.hid (hr.alloc (.cells #[] 5))
  have HO := Lib.hid (Own.made w)
  clear hr
  go_enter Tryz.func50, Tryz.ntmps50
  go_wp2_with (at_builtin; go_must (refine wpList_app rfl (.tmp 5) (.tmp 6) rfl _ 0 [] rfl HO.out.1 T (some ad) n c l rfl HR.out (by omega) ?_); intro v1 w2 hown hgrow; have HS := Lib.hid (Own.step HO.out hgrow hown); clear hown hgrow)
  go_ret
  exact HS.out.new
theorem wbytes_any (w : World) (S : Nat → Prop) (p : Option Nat) (ok : Bool) (l : List Nat) (h : Wr w S p ok l) (hl : l.length ≤ 140737488351232) :
  Calls Tryz.prog 45 #[ptr p] w (New w l) := by
 cases p with
 | none =>
   obtain ⟨_, rfl⟩ := h
   simp only [ptr, Option.map]
   go_enter Tryz.func45, Tryz.ntmps45
   go_wp2
   go_ret
   exact (Own.nil_ w).new
 | some g =>
   obtain ⟨_, v, n, hb, ho⟩ := h
   have hn := ho.len
   obtain ⟨A, c, rfl, _, _, hr⟩ := ho.reads
   have hc := hb.cell 1
   simp only [ptr, Option.map]
   have HC := Lib.hid (clone_any w S A n c l hr (by omega))
   clear hb hn ho hr
   go_enter Tryz.func45, Tryz.ntmps45
   go_wp2_with (go_at_call 50; refine HC.out.mono ?_; rintro e w' ⟨v, rfl, hv⟩; have HV := Lib.hid hv; clear hv)
   go_ret
   exact Own.new HV.out
theorem rfixed_any (w : World) (x k : Nat) (hx : x < 18446744073709551616) (hk : k ≤ 8) :
  Calls Tryz.prog 26 #[.int .u64 (x : Int), .int .i64 (k : Int)] w (New w (Cd.fixB k x)) := by
 go_enter Tryz.func26, Tryz.ntmps26
 go_wp2
 go_loopw [0, 5, 6] (fun y v0 i wr => ∃ (j : Nat) (v : Value), v = v0 ∧ j ≤ k ∧ y = .int .u64 ((x / 256 ^ j : Nat) : Int) ∧ i = .int .i64 (j : Int) ∧ Own w wr v (Cd.fixB j x)) (fun _ _ i _ => k - (intOf i).toNat)
 case atStart => exact ⟨0, _, rfl, by omega, by simp, rfl, Own.nil_ w⟩
 case round =>
  obtain ⟨j, v, rfl, hj, rfl, rfl, ho⟩ := hrel
  have HO := Lib.hid ho
  clear ho
  have hy : x / 256 ^ j < 18446744073709551616 := Nat.lt_of_le_of_lt (Nat.div_le_self _ _) hx
  have hlj : (Cd.fixB j x).length ≤ 8 := by rw [Cd.fixB_len]; omega
  obtain ⟨y, hye⟩ : ∃ y, y = x / 256 ^ j := ⟨_, rfl⟩
  rw [← hye] at hy ⊢
  have HY := Lib.hid hye
  clear hye
  by_cases hlt : j < k
  ·go_wp2_with (at_builtin; go_must (refine wpList_app rfl (.tmp 12) (.tmp 16) rfl v _ (Cd.fixB j x) rfl (HO.out.alloc _).1 (fun _ => True) (some ⟨wr.heap.size, 0, none⟩) 1 1 [y % 256] rfl (one_of _ _ _ (by omega) (by omega)) (by omega) ?_); intro v1 w1 hown hgrow; have HS := Lib.hid (Own.step (HO.out.alloc _) hgrow hown); clear hown hgrow)
   go_roundw
   case rel =>
    refine ⟨j + 1, _, rfl, by omega, ?_, by go_num, ?_⟩
    ·rw [Nat.pow_succ, ← Nat.div_div_eq_div_mul, ← HY.out]
     go_num
    ·rw [Cd.fixB_snoc, ← HY.out]
     exact HS.out
   case measure => simp [intOf]; omega
  ·obtain rfl : j = k := by omega
   go_wp2
   go_ret
   exact HO.out.new
theorem ruint_any (w : World) (x : Nat) (hx : x < 18446744073709551616) :
  Calls Tryz.prog 96 #[.int .u64 (x : Int)] w (New w (Cd.vi x)) := by
 have h10 := Cd.vi_len10 x hx
 go_enter Tryz.func96, Tryz.ntmps96
 go_wp2
 go_loopw [0, 3] (fun y0 v0 wr => ∃ (y : Nat) (v : Value) (l : List Nat), v = v0 ∧ y0 = .int .u64 (y : Int) ∧ y ≤ x ∧ Own w wr v l ∧ l ++ Cd.vi y = Cd.vi x) (fun y _ _ => (intOf y).toNat)
 case atStart => exact ⟨x, _, [], rfl, rfl, Nat.le_refl _, Own.nil_ w, rfl⟩
 case round =>
  obtain ⟨y, v, l, rfl, rfl, hy, ho, hv⟩ := hrel
  have hn : l.length ≤ 10 := by
   have := congrArg List.length hv
   simp only [List.length_append] at this
   omega
  have HO := Lib.hid ho
  have HV := Lib.hid hv
  clear ho hv
  by_cases hlt : 128 ≤ y
  ·go_wp2_with (at_builtin; go_must (refine wpList_app rfl (.tmp 6) (.tmp 11) rfl v _ l rfl (HO.out.alloc _).1 (fun _ => True) (some ⟨wr.heap.size, 0, none⟩) 1 1 [128 + y % 128] rfl (one_of _ _ _ (by omega) (by omega)) (by omega) ?_); intro v1 w1 hown hgrow; have HS := Lib.hid (Own.step (HO.out.alloc _) hgrow hown); clear hown hgrow)
   go_roundw
   case rel =>
    refine ⟨y / 128, _, l ++ [128 + y % 128], rfl, by go_num, by omega, HS.out, ?_⟩
    have hv := HV.out
    rw [Cd.vi_big (by omega)] at hv
    rw [← hv]
    simp
   case measure => simp [intOf]; omega
  ·go_wp2_with (at_builtin; go_must (refine wpList_app rfl (.tmp 15) (.tmp 18) rfl v _ l rfl (HO.out.alloc _).1 (fun _ => True) (some ⟨wr.heap.size, 0, none⟩) 1 1 [y] rfl (one_of _ _ _ (by omega) (by omega)) (by omega) ?_); intro v1 w1 hown hgrow; have HS := Lib.hid (Own.step (HO.out.alloc _) hgrow hown); clear hown hgrow)
   go_ret
   have hv := HV.out
   rw [Cd.vi_small (by omega)] at hv
   rw [← hv]
   exact HS.out.new
theorem bs_at (s : ByteArray) (j : Nat) (h : j < s.size) : (bs s).take (j + 1) = (bs s).take j ++ [s[j].toNat] := by
 have hl : j < (bs s).length := by rw [bs_len]; exact h
 rw [List.take_succ_eq_append_getElem hl]
 congr 1
 simp only [bs, List.getElem_map, Array.getElem_toList]
 rfl
theorem rtext_any (w : World) (s : ByteArray) (hs : s.size ≤ 1099511627776) :
  Calls Tryz.prog 47 #[.string s] w (New w (Cd.tx (bs s))) := by
 have HC := Lib.hid (ruint_any w s.size (by omega))
 have h10 := Cd.vi_len10 s.size (by omega)
 go_enter Tryz.func47, Tryz.ntmps47
 go_wp2_with fail
 refine HC.out.mono ?_
 rintro e w1 ⟨v1, rfl, ho1, hb1⟩
 have HO1 := Lib.hid (show Own w w1 v1 _ from ⟨ho1, hb1⟩)
 clear ho1 hb1
 go_wp2
 go_loopw [3, 4] (fun v0 i wr => ∃ (j : Nat) (v : Value), v = v0 ∧ j ≤ s.size ∧ i = .int .i64 (j : Int) ∧ Own w wr v (Cd.vi s.size ++ (bs s).take j)) (fun _ i _ => s.size - (intOf i).toNat)
 case atStart => exact ⟨0, _, rfl, by omega, rfl, by simpa using HO1.out⟩
 case round =>
  obtain ⟨j, v, rfl, hj, rfl, ho⟩ := hrel
  have hn : (Cd.vi s.size ++ (bs s).take j).length ≤ 10 + j := by simp; omega
  have HO := Lib.hid ho
  clear ho
  by_cases hlt : j < s.size
  ·have hby : s[j].toNat < 256 := s[j].toNat_lt
   go_wp2_with (at_builtin; go_must (refine wpList_app rfl (.tmp 15) (.tmp 19) rfl v _ _ rfl (HO.out.alloc _).1 (fun _ => True) (some ⟨wr.heap.size, 0, none⟩) 1 1 [s[j].toNat] rfl (one_of _ _ _ (by rfl) (by omega)) (by omega) ?_); intro v1 w1 hown hgrow; have HS := Lib.hid (Own.step (HO.out.alloc _) hgrow hown); clear hown hgrow)
   go_roundw
   case rel =>
    refine ⟨j + 1, _, rfl, by omega, by go_num, ?_⟩
    rw [bs_at s j hlt, ← List.append_assoc]
    exact HS.out
   case measure => simp [intOf]; omega
  ·obtain rfl : j = s.size := by omega
   go_wp2
   go_ret
   have ho := HO.out.new
   rw [List.take_of_length_le (by rw [bs_len]; omega)] at ho
   unfold Cd.tx
   rw [bs_len]
   exact ho
end Go.Proofs.YtdhgbkibbileiaaGreat
set_option maxRecDepth 100000
namespace Go.Proofs.YtdhgbkibbileiaaGreat
open Go.RowKit
def okO {α : Type} (ok : Bool) (o : Option (α × Nat)) : Bool := ok && o.isSome
def leftO {α : Type} (ok : Bool) (l : List Nat) (o : Option (α × Nat)) : List Nat :=
 match ok, o with
 | true, some (_, n) => l.drop n
 | _, _ => l
def valO {α : Type} (ok : Bool) (o : Option (α × Nat)) (z : α) : α :=
 match ok, o with
 | true, some (x, _) => x
 | _, _ => z
def takeO (l : List Nat) (n : Int) : Option (List Nat × Nat) := if 0 ≤ n ∧ n ≤ l.length then some (l.take n.toNat, n.toNat) else none
def errOf (ok : Bool) : Int := if ok then 0 else 5
theorem readable_any (w : World) (S : Nat → Prop) (p : Option Nat) (ok : Bool) (l : List Nat) (h : Rd w S p ok l) :
  Calls Tryz.prog 127 #[ptr p] w fun e w' => e = .returned (.bool ok) ∧ w = w' := by
 cases p with
 | none =>
   obtain ⟨rfl, _⟩ := h
   simp only [ptr, Option.map]
   go_enter Tryz.func127, Tryz.ntmps127
   go_wp2
   go_ret
   exact ⟨rfl, rfl⟩
 | some g =>
   obtain ⟨_, A, n, c, hb, _⟩ := h
   have hc := hb.cell 0
   simp only [ptr, Option.map]
   clear hb
   go_enter Tryz.func127, Tryz.ntmps127
   go_wp2
   go_ret
   exact ⟨rfl, rfl⟩
theorem err_any (w : World) (S : Nat → Prop) (p : Option Nat) (ok : Bool) (l : List Nat) (h : Rd w S p ok l) :
  Calls Tryz.prog 135 #[ptr p] w fun e w' => e = .returned (.int .i64 (errOf ok)) ∧ w = w' := by
 have HC := Lib.hid (readable_any w S p ok l h)
 clear h
 cases ok with
 | true =>
   simp only [errOf, if_true]
   go_enter Tryz.func135, Tryz.ntmps135
   go_wp2_with (go_at_call 127; refine HC.out.mono ?_; rintro e w' ⟨rfl, rfl⟩)
   go_ret
   exact ⟨rfl, rfl⟩
 | false =>
   simp only [errOf, Bool.false_eq_true, if_false]
   go_enter Tryz.func135, Tryz.ntmps135
   go_wp2_with (go_at_call 127; refine HC.out.mono ?_; rintro e w' ⟨rfl, rfl⟩)
   go_ret
   exact ⟨rfl, rfl⟩
theorem Rd.fault {w : World} {S : Nat → Prop} {g : Nat} {ok : Bool} {l : List Nat} (h : Rd w S (some g) ok l) :
  Rd (w.setCell ⟨g, 0, none⟩ (.bool false)) S (some g) false l ∧ Fr w (w.setCell ⟨g, 0, none⟩ (.bool false)) S := by
 obtain ⟨hS, A, n, c, hb, hr, h4⟩ := h
 refine ⟨⟨hS, A, n, c, by simpa using hb.set_ 0 (.bool false), hr.far (fun hh => hh.2 rfl) _, h4⟩, (Fr.refl _ _).setCell (Or.inl hS) _⟩
theorem Rd.took {w : World} {S : Nat → Prop} {g : Nat} {ok : Bool} {l : List Nat} {A : Option Addr} {n c k : Nat} (hS : S g) (hb : Blk w g 100 #[.bool ok, .slice A n c]) (hr : RB w (fun b => S b ∧ b ≠ g) A n l) (hc : n ≤ c) (hn : n ≤ 140737488351232) (hk : k ≤ n) :
  Rd (w.setCell ⟨g, 1, none⟩ (.slice (if c = k then A else A.map (·.add k)) (n - k) (c - k))) S (some g) ok (l.drop k) ∧ Fr w (w.setCell ⟨g, 1, none⟩ (.slice (if c = k then A else A.map (·.add k)) (n - k) (c - k))) S :=
 ⟨⟨hS, _, _, _, by simpa using hb.set_ 1 (.slice (if c = k then A else A.map (·.add k)) (n - k) (c - k)), (hr.drop hk hc).far (fun hh => hh.2 rfl) _, by omega, by omega⟩, (Fr.refl _ _).setCell (Or.inl hS) _⟩
theorem rd_some {w : World} {S : Nat → Prop} {p : Option Nat} {l : List Nat} (h : Rd w S p true l) : ∃ g, p = some g := by
 cases p with
 | none => exact absurd h.1 (by simp)
 | some g => exact ⟨g, rfl⟩
theorem newReader_any (w : World) (T : Nat → Prop) (A : Option Addr) (n c : Nat) (l : List Nat) (hr : RB w T A n l) (hn : n ≤ 140737488351232) :
  Calls Tryz.prog 32 #[.slice A n c] w fun e w' => ∃ g, e = .returned (ptr (some g)) ∧ Rd w' (fun b => w.heap.size ≤ b) (some g) true l ∧ Below w.heap.size w w' := by
 have HC := Lib.hid (clone_any w T A n c l hr hn)
 have hln := hr.len
 have hn2 : l.length ≤ 140737488351232 := by omega
 clear hr hln
 go_enter Tryz.func32, Tryz.ntmps32
 go_wp2_with fail
 refine HC.out.mono ?_
 rintro e w1 ⟨v, rfl, ho, hb⟩
 obtain ⟨A1, c1, rfl, h1, _, h3⟩ := ho.reads
 have HR := Lib.hid h3
 have HB := Lib.hid hb
 have hsz := hb.size
 clear ho hb h3
 go_wp2
 go_ret
 refine ⟨w1.heap.size, rfl, ⟨hsz, A1, l.length, c1, Blk.new w1 100 _, ?_, h1, hn2⟩, HB.out.alloc hsz _⟩
 exact (HR.out.mono (T := fun b => w.heap.size ≤ b ∧ b ≠ w1.heap.size) fun b hb hS => ⟨hS, by omega⟩).alloc _
end Go.Proofs.YtdhgbkibbileiaaGreat
set_option maxRecDepth 100000
namespace Go.Proofs.YtdhgbkibbileiaaGreat
open Go.RowKit
theorem takeO_no {l : List Nat} {n : Int} (h : ¬ (0 ≤ n ∧ n ≤ l.length)) : takeO l n = none := if_neg h
theorem takeO_yes {l : List Nat} {k : Nat} (h : k ≤ l.length) : takeO l (k : Int) = some (l.take k, k) := by
 unfold takeO
 rw [if_pos (by omega)]
 simp
def Took (w : World) (S : Nat → Prop) (p : Option Nat) (ok : Bool) (l : List Nat) (n : Int) (e : Ending) (w' : World) : Prop :=
 ∃ A m c, e = .returned (.tuple #[.slice A m c, .bool (okO ok (takeO l n))]) ∧ RB w' (fun b => S b ∧ some b ≠ p) A m (valO ok (takeO l n) []) ∧ m ≤ 140737488351232 ∧
   Rd w' S p (okO ok (takeO l n)) (leftO ok l (takeO l n)) ∧ Fr w w' S
theorem take_any (w : World) (S : Nat → Prop) (p : Option Nat) (ok : Bool) (l : List Nat) (n : Int) (h1 : -9223372036854775808 ≤ n) (h2 : n ≤ 9223372036854775807) (h : Rd w S p ok l) :
  Calls Tryz.prog 97 #[ptr p, .int .i64 n] w (Took w S p ok l n) := by
 have HR := Lib.hid (readable_any w S p ok l h)
 cases ok with
 | false =>
   have HD := Lib.hid h
   clear h
   go_enter Tryz.func97, Tryz.ntmps97
   go_wp2_with (go_at_call 127; refine HR.out.mono ?_; rintro e w' ⟨rfl, rfl⟩)
   go_ret2
   exact ⟨none, 0, 0, rfl, RB.nil_, by omega, HD.out, Fr.refl _ _⟩
 | true =>
   obtain ⟨g, rfl⟩ := rd_some h
   have hf := Rd.fault h
   have HD := Lib.hid hf
   obtain ⟨hS, A, m, c, hb, hr, hmc, hm⟩ := h
   have hln := hr.len
   have hc := hb.cell 1
   have hc0 := hb.cell 0
   have hc1 := hb.frozen 0
   have hc2 := hb.frozen 1
   simp only [ptr, Option.map] at HR ⊢
   by_cases hn : 0 ≤ n ∧ n ≤ l.length
   ·obtain ⟨hn1, hn2⟩ := hn
    obtain ⟨k, rfl⟩ := Int.eq_ofNat_of_zero_le hn1
    have hk : k ≤ m := by omega
    have HT := Lib.hid (Rd.took hS hb hr hmc hm hk)
    have HRB := Lib.hid (hr.take hk)
    have HO := Lib.hid (takeO_yes (l := l) (k := k) (by omega))
    clear hf hb hr hln hn1 hn2
    go_enter Tryz.func97, Tryz.ntmps97
    go_wp2_with (go_at_call 127; refine HR.out.mono ?_; rintro e w' ⟨rfl, rfl⟩)
    all_goals
     go_ret2
     unfold Took
     rw [HO.out]
     refine ⟨A, k, _, rfl, (HRB.out.mono (T := fun b => S b ∧ some b ≠ some g) fun b _ hb => ⟨hb.1, fun e => hb.2 (by injection e)⟩).far (fun hh => hh.2 rfl) _, by omega, ?_⟩
     have ht := HT.out
     first | rw [if_neg ‹_›] at ht | rw [if_pos ‹_›, show c - k = 0 by omega] at ht
     exact ht
   ·have HO := Lib.hid (takeO_no hn)
    have hn' : n < 0 ∨ (m : Int) < n := by omega
    clear hf hb hr hln hn
    rcases hn' with hn | hn
    ·go_enter Tryz.func97, Tryz.ntmps97
     go_wp2_with (go_at_call 127; refine HR.out.mono ?_; rintro e w' ⟨rfl, rfl⟩)
     go_ret2
     unfold Took
     rw [HO.out]
     exact ⟨none, 0, 0, rfl, RB.nil_, by omega, HD.out⟩
    ·have hn0 : ¬ n < 0 := by omega
     go_enter Tryz.func97, Tryz.ntmps97
     go_wp2_with (go_at_call 127; refine HR.out.mono ?_; rintro e w' ⟨rfl, rfl⟩)
     go_ret2
     unfold Took
     rw [HO.out]
     exact ⟨none, 0, 0, rfl, RB.nil_, by omega, HD.out⟩
def fixO (l : List Nat) (k : Nat) : Option (Nat × Nat) := (takeO l k).map fun x => (Cd.unfix x.1, x.2)
theorem fixO_val (ok : Bool) (l : List Nat) (k : Nat) : valO ok (fixO l k) 0 = Cd.unfix (valO ok (takeO l k) []) := by
 unfold fixO
 cases ok <;> cases takeO l k <;> rfl
theorem fixO_ok (ok : Bool) (l : List Nat) (k : Nat) : okO ok (fixO l k) = okO ok (takeO l k) := by
 unfold fixO
 cases ok <;> cases takeO l k <;> rfl
theorem fixO_left (ok : Bool) (l : List Nat) (k : Nat) : leftO ok l (fixO l k) = leftO ok l (takeO l k) := by
 unfold fixO
 cases ok <;> cases takeO l k <;> rfl
theorem takeO_len (ok : Bool) (l : List Nat) (k : Nat) : (valO ok (takeO l k) []).length ≤ k := by
 cases ok with
 | false => simp [valO]
 | true =>
   unfold takeO
   by_cases h : 0 ≤ (k : Int) ∧ (k : Int) ≤ l.length
   ·rw [if_pos h]; simp [valO]; omega
   ·rw [if_neg h]; simp [valO]
def Got {α : Type} (w : World) (S : Nat → Prop) (p : Option Nat) (ok : Bool) (l : List Nat) (o : Option (α × Nat)) (w' : World) : Prop :=
 Rd w' S p (okO ok o) (leftO ok l o) ∧ Fr w w' S
theorem Got.fix {w w' : World} {S : Nat → Prop} {p : Option Nat} {ok : Bool} {l : List Nat} {k : Nat} (h1 : Rd w' S p (okO ok (takeO l k)) (leftO ok l (takeO l k))) (h2 : Fr w w' S) : Got w S p ok l (fixO l k) w' := by
 unfold Got
 rw [fixO_ok, fixO_left]
 exact ⟨h1, h2⟩
theorem unfix_step (t : List Nat) (k : Nat) (h : k < t.length) : Cd.unfix (t.take (k + 1)) = Cd.unfix (t.take k) + t.getD k 0 * 256 ^ k := by
 rw [List.take_succ_eq_append_getElem h, Cd.unfix_snoc]
 simp [h, show min k t.length = k by omega]
theorem unfix_take_lt (t : List Nat) (k : Nat) (ht : ∀ x ∈ t, x < 256) : Cd.unfix (t.take k) < 256 ^ k := by
 refine Nat.lt_of_lt_of_le (Cd.unfix_lt _ fun x hx => ht x (List.mem_of_mem_take hx)) (Nat.pow_le_pow_right (by omega) (by simp; omega))
theorem or_at8 (k r b : Nat) (hk : k < 1) (hr : r < 256 ^ k) (hb : b < 256) : bits BinOp.or .u8 (r : Int) (IntKind.u8.wrap ((b : Int) * 2 ^ (8 * k))) = ((r + b * 256 ^ k : Nat) : Int) := by
 have e2 : (2 : Nat) ^ (8 * k) = 256 ^ k := by rw [Nat.pow_mul]
 have hp : b * 256 ^ k + 256 ^ k ≤ 256 := by
  have h1 : 256 ^ k ≤ 256 ^ 0 := Nat.pow_le_pow_right (by decide) (by omega)
  have h2 : (b + 1) * 256 ^ k ≤ 256 * 256 ^ 0 := Nat.mul_le_mul (by omega) h1
  have h3 : 256 * 256 ^ 0 = 256 := by decide
  rw [h3, Nat.add_mul, Nat.one_mul] at h2
  exact h2
 have e : IntKind.u8.wrap ((b : Int) * 2 ^ (8 * k)) = ((b * 256 ^ k : Nat) : Int) := by
  have e1 : (b : Int) * 2 ^ (8 * k) = ((b * 256 ^ k : Nat) : Int) := by rw [← e2]; simp
  rw [e1, IntKind.wrap_u8]
  omega
 have hpos : 0 < 256 ^ k := Nat.pow_pos (by decide)
 rw [e, u8_or_nat r _ (by omega) (by omega)]
 have h := Nat.two_pow_add_eq_or_of_lt (i := 8 * k) (by rw [e2]; exact hr) b
 rw [e2, Nat.mul_comm] at h
 rw [Nat.or_comm, ← h, Nat.add_comm]
theorem or_at16 (k r b : Nat) (hk : k < 2) (hr : r < 256 ^ k) (hb : b < 256) : bits BinOp.or .u16 (r : Int) (IntKind.u16.wrap ((b : Int) * 2 ^ (8 * k))) = ((r + b * 256 ^ k : Nat) : Int) := by
 have e2 : (2 : Nat) ^ (8 * k) = 256 ^ k := by rw [Nat.pow_mul]
 have hp : b * 256 ^ k + 256 ^ k ≤ 65536 := by
  have h1 : 256 ^ k ≤ 256 ^ 1 := Nat.pow_le_pow_right (by decide) (by omega)
  have h2 : (b + 1) * 256 ^ k ≤ 256 * 256 ^ 1 := Nat.mul_le_mul (by omega) h1
  have h3 : 256 * 256 ^ 1 = 65536 := by decide
  rw [h3, Nat.add_mul, Nat.one_mul] at h2
  exact h2
 have e : IntKind.u16.wrap ((b : Int) * 2 ^ (8 * k)) = ((b * 256 ^ k : Nat) : Int) := by
  have e1 : (b : Int) * 2 ^ (8 * k) = ((b * 256 ^ k : Nat) : Int) := by rw [← e2]; simp
  rw [e1, IntKind.wrap_u16]
  omega
 have hpos : 0 < 256 ^ k := Nat.pow_pos (by decide)
 rw [e, u16_or_nat r _ (by omega) (by omega)]
 have h := Nat.two_pow_add_eq_or_of_lt (i := 8 * k) (by rw [e2]; exact hr) b
 rw [e2, Nat.mul_comm] at h
 rw [Nat.or_comm, ← h, Nat.add_comm]
theorem readFix8_any (w : World) (S : Nat → Prop) (p : Option Nat) (ok : Bool) (l : List Nat) (h : Rd w S p ok l) :
  Calls Tryz.prog 99 #[ptr p] w fun e w' => e = .returned (.int .u8 ((valO ok (fixO l 1) 0 : Nat) : Int)) ∧ Got w S p ok l (fixO l 1) w' := by
 have HT := Lib.hid (take_any w S p ok l 1 (by omega) (by omega) h)
 clear h
 go_enter Tryz.func99, Tryz.ntmps99
 go_wp2_with (go_at_call 104; refine (size8 _).mono ?_; rintro e w' ⟨rfl, rfl⟩)
 refine HT.out.mono ?_
 rintro e w1 ⟨A, m, c, rfl, hr, hm, hd, hf⟩
 have hm8 : m ≤ 1 := by rw [← hr.len]; exact takeO_len ok l 1
 have HG := Lib.hid (Got.fix hd hf)
 have HV := Lib.hid (fixO_val ok l 1)
 obtain ⟨t, ht⟩ : ∃ t, t = valO ok (takeO l (1 : Nat)) [] := ⟨_, rfl⟩
 have hr' : RB w1 (fun b => S b ∧ some b ≠ p) A m t := by rw [ht]; exact hr
 have HRB := Lib.hid hr'
 have HTT := Lib.hid ht
 clear hr hr' hd hf ht
 go_wp2
 go_loop [5, 16] (fun y i => ∃ k r : Nat, k ≤ m ∧ i = .int .i64 (k : Int) ∧ r = Cd.unfix (t.take k) ∧ y = .int .u8 (r : Int)) (fun _ i => m - (intOf i).toNat)
 case atStart => exact ⟨0, 0, by omega, rfl, by simp [Cd.unfix], rfl⟩
 case round =>
  obtain ⟨k, r, hk, rfl, hr, rfl⟩ := hrel
  have HR := Lib.hid hr
  clear hr
  by_cases hlt : k < m
  ·obtain ⟨ad, rfl, hx, hc⟩ := HRB.out.at_ hlt
   obtain ⟨b, hb⟩ : ∃ b, b = t.getD k 0 := ⟨_, rfl⟩
   rw [← hb] at hx hc
   have HB := Lib.hid hb
   clear hb
   go_wp2
   go_round
   case rel =>
    have hl := HRB.out.len
    have hrl : r < 256 ^ k := by rw [HR.out]; exact unfix_take_lt t k HRB.out.lt
    refine ⟨k + 1, r + b * 256 ^ k, by omega, by go_num, ?_, ?_⟩
    ·rw [unfix_step t k (by omega), HR.out, HB.out]
    ·rw [← IntKind.wrap_u8, or_at8 k r b (by omega) hrl hx]
   case measure => simp [intOf]; omega
  ·obtain rfl : k = m := by omega
   go_wp2
   go_ret
   have hl := HRB.out.len
   rw [HV.out, ← HTT.out]
   have hr := HR.out
   rw [List.take_of_length_le (by omega)] at hr
   rw [← hr]
   exact ⟨rfl, HG.out⟩
theorem readFix16_any (w : World) (S : Nat → Prop) (p : Option Nat) (ok : Bool) (l : List Nat) (h : Rd w S p ok l) :
  Calls Tryz.prog 51 #[ptr p] w fun e w' => e = .returned (.int .u16 ((valO ok (fixO l 2) 0 : Nat) : Int)) ∧ Got w S p ok l (fixO l 2) w' := by
 have HT := Lib.hid (take_any w S p ok l 2 (by omega) (by omega) h)
 clear h
 go_enter Tryz.func51, Tryz.ntmps51
 go_wp2_with (go_at_call 98; refine (size16 _).mono ?_; rintro e w' ⟨rfl, rfl⟩)
 refine HT.out.mono ?_
 rintro e w1 ⟨A, m, c, rfl, hr, hm, hd, hf⟩
 have hm8 : m ≤ 2 := by rw [← hr.len]; exact takeO_len ok l 2
 have HG := Lib.hid (Got.fix hd hf)
 have HV := Lib.hid (fixO_val ok l 2)
 obtain ⟨t, ht⟩ : ∃ t, t = valO ok (takeO l (2 : Nat)) [] := ⟨_, rfl⟩
 have hr' : RB w1 (fun b => S b ∧ some b ≠ p) A m t := by rw [ht]; exact hr
 have HRB := Lib.hid hr'
 have HTT := Lib.hid ht
 clear hr hr' hd hf ht
 go_wp2
 go_loop [5, 16] (fun y i => ∃ k r : Nat, k ≤ m ∧ i = .int .i64 (k : Int) ∧ r = Cd.unfix (t.take k) ∧ y = .int .u16 (r : Int)) (fun _ i => m - (intOf i).toNat)
 case atStart => exact ⟨0, 0, by omega, rfl, by simp [Cd.unfix], rfl⟩
 case round =>
  obtain ⟨k, r, hk, rfl, hr, rfl⟩ := hrel
  have HR := Lib.hid hr
  clear hr
  by_cases hlt : k < m
  ·obtain ⟨ad, rfl, hx, hc⟩ := HRB.out.at_ hlt
   obtain ⟨b, hb⟩ : ∃ b, b = t.getD k 0 := ⟨_, rfl⟩
   rw [← hb] at hx hc
   have HB := Lib.hid hb
   clear hb
   go_wp2
   go_round
   case rel =>
    have hl := HRB.out.len
    have hrl : r < 256 ^ k := by rw [HR.out]; exact unfix_take_lt t k HRB.out.lt
    refine ⟨k + 1, r + b * 256 ^ k, by omega, by go_num, ?_, ?_⟩
    ·rw [unfix_step t k (by omega), HR.out, HB.out]
    ·rw [or_at16 k r b (by omega) hrl hx]
   case measure => simp [intOf]; omega
  ·obtain rfl : k = m := by omega
   go_wp2
   go_ret
   have hl := HRB.out.len
   rw [HV.out, ← HTT.out]
   have hr := HR.out
   rw [List.take_of_length_le (by omega)] at hr
   rw [← hr]
   exact ⟨rfl, HG.out⟩
end Go.Proofs.YtdhgbkibbileiaaGreat
