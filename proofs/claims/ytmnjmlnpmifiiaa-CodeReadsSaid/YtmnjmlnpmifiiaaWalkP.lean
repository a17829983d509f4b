/-
  THE WALK OF again: an item is asked for, and is as it was written.
-/
import Derived.Test.YtmnjmlnpmifiiaaWalkO
import Derived.Deep.RegionWith
import Derived.Deep.RegionHeld3
import Derived.Deep.DrawnRows
namespace Go.Proofs.Ytmnjmlnpmifiiaa
open Go.RowKit
attribute [local go_sem ↓] Go.wp_at_zero Go.wp_at_succ

/-- what again answers, and what it leaves -/
def Agn {α : Type} (w : World) (S : Nat → Prop) (p : Option Nat) (ok : Bool) (l : List Nat) (b : Bool) (o : Option (α × Nat)) (e : Ending) (w' : World) : Prop :=
  e = .returned (.bool b) ∧ Rd w' S p (okO ok o) (leftO ok l o) ∧ Fr w w' S
theorem Rd.alloc {w : World} {S : Nat → Prop} {p : Option Nat} {ok : Bool} {l : List Nat} (h : Rd w S p ok l) (o : Obj) : Rd (w.alloc o) (fun b => S b ∧ b < w.heap.size) p ok l :=
  Rd.keep (Rd.up h) (T := No) ((Fr.refl w No).alloc o) fun _ _ hn => hn
theorem Agn.of {α : Type} {w w2 : World} {S : Nat → Prop} {p : Option Nat} {ok : Bool} {l : List Nat} {b b' : Bool} {o : Option (α × Nat)} {ob : Obj} (hg : Got ((w.alloc ob).drew) (fun b => S b ∧ b < w.heap.size) p ok l o w2) (hb : b' = b) : Agn w S p ok l b o (.returned (.bool b')) w2 :=
  ⟨by rw [hb], Rd.mono hg.1 fun _ _ hb => hb.1, (((Fr.refl w S).alloc ob).drew).trans hg.2 fun _ hb => Or.inl hb.1⟩

set_option maxRecDepth 100000 in
set_option maxHeartbeats 1000000 in
theorem again_k0 (w : World) (S : Nat → Prop) (p : Option Nat) (ok : Bool) (l : List Nat) (x : Nat) (s : ByteArray) (n : Int) (h : Rd w S p ok l) :
    Calls Try.prog 22 #[ptr p, .agg #[.int .i64 0, .int .u64 (x : Int), .string s, .int .i64 n]] w (Agn w S p ok l (decide (valO ok (fixO l 1) 0 = x % 256)) (fixO l 1)) := by
  have HC := Lib.hid (ru8_any _ _ p ok l (Rd.drew (Rd.alloc h (.cells #[.int .i64 0, .int .u64 (x : Int), .string s, .int .i64 n] 31))))
  have HB := Lib.hid (Blk.new w 31 #[.int .i64 0, .int .u64 (x : Int), .string s, .int .i64 n]).drew
  clear h
  go_enter Try.func22, Try.ntmps22
  go_wp2
  go_region_with (go_at_call 29; refine HC.out.mono ?_; rintro e w2 ⟨rfl, hg⟩; have hb2 : Blk w2 w.heap.size 31 _ := HB.out.keep hg.2 (by intro hh; exact absurd hh.2 (by omega)); have hc2 : w2.cell? ⟨w.heap.size, 1, none⟩ = some (.int .u64 (x : Int)) := hb2.cell 1; have HG := Lib.hid hg; clear hg hb2)
  all_goals
    go_wp2
    go_ret
    refine Agn.of HG.out ?_
    rw [Bool.eq_iff_iff]
    simp only [beq_iff_eq, decide_eq_true_eq, IntKind.wrap_u8]
    omega

set_option maxRecDepth 100000 in
set_option maxHeartbeats 1000000 in
theorem again_k1 (w : World) (S : Nat → Prop) (p : Option Nat) (ok : Bool) (l : List Nat) (x : Nat) (s : ByteArray) (n : Int) (h : Rd w S p ok l) :
    Calls Try.prog 22 #[ptr p, .agg #[.int .i64 1, .int .u64 (x : Int), .string s, .int .i64 n]] w (Agn w S p ok l (decide (valO ok (fixO l 2) 0 = x % 65536)) (fixO l 2)) := by
  have HC := Lib.hid (ru16_any _ _ p ok l (Rd.drew (Rd.alloc h (.cells #[.int .i64 1, .int .u64 (x : Int), .string s, .int .i64 n] 31))))
  have HB := Lib.hid (Blk.new w 31 #[.int .i64 1, .int .u64 (x : Int), .string s, .int .i64 n]).drew
  clear h
  go_enter Try.func22, Try.ntmps22
  go_wp2
  go_region_with (go_at_call 41; refine HC.out.mono ?_; rintro e w2 ⟨rfl, hg⟩; have hb2 : Blk w2 w.heap.size 31 _ := HB.out.keep hg.2 (by intro hh; exact absurd hh.2 (by omega)); have hc2 : w2.cell? ⟨w.heap.size, 1, none⟩ = some (.int .u64 (x : Int)) := hb2.cell 1; have HG := Lib.hid hg; clear hg hb2)
  all_goals
    go_wp2
    go_ret
    refine Agn.of HG.out ?_
    rw [Bool.eq_iff_iff]
    simp only [beq_iff_eq, decide_eq_true_eq, IntKind.wrap_u16]
    omega

set_option maxRecDepth 100000 in
set_option maxHeartbeats 1000000 in
theorem again_k2 (w : World) (S : Nat → Prop) (p : Option Nat) (ok : Bool) (l : List Nat) (x : Nat) (s : ByteArray) (n : Int) (h : Rd w S p ok l) :
    Calls Try.prog 22 #[ptr p, .agg #[.int .i64 2, .int .u64 (x : Int), .string s, .int .i64 n]] w (Agn w S p ok l (decide (valO ok (fixO l 4) 0 = x % 4294967296)) (fixO l 4)) := by
  have HC := Lib.hid (ru32_any _ _ p ok l (Rd.drew (Rd.alloc h (.cells #[.int .i64 2, .int .u64 (x : Int), .string s, .int .i64 n] 31))))
  have HB := Lib.hid (Blk.new w 31 #[.int .i64 2, .int .u64 (x : Int), .string s, .int .i64 n]).drew
  clear h
  go_enter Try.func22, Try.ntmps22
  go_wp2
  go_region_with (go_at_call 42; refine HC.out.mono ?_; rintro e w2 ⟨rfl, hg⟩; have hb2 : Blk w2 w.heap.size 31 _ := HB.out.keep hg.2 (by intro hh; exact absurd hh.2 (by omega)); have hc2 : w2.cell? ⟨w.heap.size, 1, none⟩ = some (.int .u64 (x : Int)) := hb2.cell 1; have HG := Lib.hid hg; clear hg hb2)
  all_goals
    go_wp2
    go_ret
    refine Agn.of HG.out ?_
    rw [Bool.eq_iff_iff]
    simp only [beq_iff_eq, decide_eq_true_eq, IntKind.wrap_u32]
    omega

set_option maxRecDepth 100000 in
set_option maxHeartbeats 1000000 in
theorem again_k3 (w : World) (S : Nat → Prop) (p : Option Nat) (ok : Bool) (l : List Nat) (x : Nat) (s : ByteArray) (n : Int) (h : Rd w S p ok l) :
    Calls Try.prog 22 #[ptr p, .agg #[.int .i64 3, .int .u64 (x : Int), .string s, .int .i64 n]] w (Agn w S p ok l (decide (valO ok (fixO l 8) 0 = x)) (fixO l 8)) := by
  have HC := Lib.hid (ru64_any _ _ p ok l (Rd.drew (Rd.alloc h (.cells #[.int .i64 3, .int .u64 (x : Int), .string s, .int .i64 n] 31))))
  have HB := Lib.hid (Blk.new w 31 #[.int .i64 3, .int .u64 (x : Int), .string s, .int .i64 n]).drew
  clear h
  go_enter Try.func22, Try.ntmps22
  go_wp2
  go_region_with (go_at_call 43; refine HC.out.mono ?_; rintro e w2 ⟨rfl, hg⟩; have hb2 : Blk w2 w.heap.size 31 _ := HB.out.keep hg.2 (by intro hh; exact absurd hh.2 (by omega)); have hc2 : w2.cell? ⟨w.heap.size, 1, none⟩ = some (.int .u64 (x : Int)) := hb2.cell 1; have HG := Lib.hid hg; clear hg hb2)
  all_goals
    go_wp2
    go_ret
    refine Agn.of HG.out ?_
    rw [Bool.eq_iff_iff]
    simp only [beq_iff_eq, decide_eq_true_eq]
    omega

set_option maxRecDepth 100000 in
set_option maxHeartbeats 1000000 in
theorem again_k4 (w : World) (S : Nat → Prop) (p : Option Nat) (ok : Bool) (l : List Nat) (x : Nat) (s : ByteArray) (n : Int) (h : Rd w S p ok l) :
    Calls Try.prog 22 #[ptr p, .agg #[.int .i64 4, .int .u64 (x : Int), .string s, .int .i64 n]] w (Agn w S p ok l (decide (valO ok (Cd.front l) 0 = x)) (Cd.front l)) := by
  have HC := Lib.hid (uint_any _ _ p ok l (Rd.drew (Rd.alloc h (.cells #[.int .i64 4, .int .u64 (x : Int), .string s, .int .i64 n] 31))))
  have HB := Lib.hid (Blk.new w 31 #[.int .i64 4, .int .u64 (x : Int), .string s, .int .i64 n]).drew
  clear h
  go_enter Try.func22, Try.ntmps22
  go_wp2
  go_region_with (go_at_call 23; refine HC.out.mono ?_; rintro e w2 ⟨rfl, hg⟩; have hb2 : Blk w2 w.heap.size 31 _ := HB.out.keep hg.2 (by intro hh; exact absurd hh.2 (by omega)); have hc2 : w2.cell? ⟨w.heap.size, 1, none⟩ = some (.int .u64 (x : Int)) := hb2.cell 1; have HG := Lib.hid hg; clear hg hb2)
  all_goals
    go_wp2
    go_ret
    refine Agn.of HG.out ?_
    rw [Bool.eq_iff_iff]
    simp only [beq_iff_eq, decide_eq_true_eq]
    omega

set_option maxRecDepth 100000 in
set_option maxHeartbeats 1000000 in
theorem again_k5 (w : World) (S : Nat → Prop) (p : Option Nat) (ok : Bool) (l : List Nat) (x : Nat) (s : ByteArray) (n : Int) (hx : x < 18446744073709551616) (h : Rd w S p ok l) :
    Calls Try.prog 22 #[ptr p, .agg #[.int .i64 5, .int .u64 (x : Int), .string s, .int .i64 n]] w (Agn w S p ok l (decide (valO ok (intO l) 0 = sx x)) (intO l)) := by
  have HC := Lib.hid (rint_any _ _ p ok l (Rd.drew (Rd.alloc h (.cells #[.int .i64 5, .int .u64 (x : Int), .string s, .int .i64 n] 31))))
  have HB := Lib.hid (Blk.new w 31 #[.int .i64 5, .int .u64 (x : Int), .string s, .int .i64 n]).drew
  clear h
  go_enter Try.func22, Try.ntmps22
  go_wp2
  go_region_with (go_at_call 24; refine HC.out.mono ?_; rintro e w2 ⟨rfl, hg⟩; have hb2 : Blk w2 w.heap.size 31 _ := HB.out.keep hg.2 (by intro hh; exact absurd hh.2 (by omega)); have hc2 : w2.cell? ⟨w.heap.size, 1, none⟩ = some (.int .u64 (x : Int)) := hb2.cell 1; have HG := Lib.hid hg; clear hg hb2)
  all_goals
    go_wp2
    go_ret
    refine Agn.of HG.out ?_
    have hx2 := sx_wrap x hx
    rw [Bool.eq_iff_iff]
    simp only [beq_iff_eq, decide_eq_true_eq, hx2]

def mx (n : Int) (s : ByteArray) : Int := if n < (s.size : Int) then (s.size : Int) else n
theorem mx_bd (n : Int) (s : ByteArray) (h1 : -9223372036854775808 ≤ n) (h2 : n ≤ 9223372036854775807) (hs : s.size ≤ 1048576) : -9223372036854775808 ≤ mx n s ∧ mx n s ≤ 9223372036854775807 := by
  unfold mx; split <;> omega
theorem bytes_beq (a b : ByteArray) : (a.toList == b.toList) = decide (a = b) := by
  rw [Bool.eq_iff_iff]
  simp only [beq_iff_eq, decide_eq_true_eq]
  exact ⟨fun h => Go.WideShapes.bytes_inj (by rw [← ByteArray.toList_eq, ← ByteArray.toList_eq]; exact h), fun h => by rw [h]⟩

set_option maxRecDepth 100000 in
set_option maxHeartbeats 2000000 in
theorem again_k6a (w : World) (S : Nat → Prop) (p : Option Nat) (ok : Bool) (l : List Nat) (x : Nat) (s : ByteArray) (n : Int) (h1 : -9223372036854775808 ≤ n) (h2 : n ≤ 9223372036854775807) (hs : s.size ≤ 1048576) (hm : n < (s.size : Int)) (h : Rd w S p ok l) :
    Calls Try.prog 22 #[ptr p, .agg #[.int .i64 6, .int .u64 (x : Int), .string s, .int .i64 n]] w (Agn w S p ok l (decide (strOf (valO ok (Cd.text l (mx n s)) []) = s)) (Cd.text l (mx n s))) := by
  have hmx : mx n s = (s.size : Int) := if_pos hm
  have hC : Calls Try.prog 25 #[ptr p, .int .i64 (s.size : Int)] (w.alloc (.cells #[.int .i64 6, .int .u64 (x : Int), .string s, .int .i64 n] 31)).drew fun e w' => e = .returned (strV ok l (mx n s)) ∧ Got (w.alloc (.cells #[.int .i64 6, .int .u64 (x : Int), .string s, .int .i64 n] 31)).drew (fun b => S b ∧ b < w.heap.size) p ok l (Cd.text l (mx n s)) w' :=
    by
      have := text_any _ _ p ok l (mx n s) (mx_bd n s h1 h2 hs).1 (mx_bd n s h1 h2 hs).2 (Rd.drew (Rd.alloc h (.cells #[.int .i64 6, .int .u64 (x : Int), .string s, .int .i64 n] 31)))
      rw [hmx] at this ⊢
      exact this
  have HC := Lib.hid hC
  have HB := Lib.hid (Blk.new w 31 #[.int .i64 6, .int .u64 (x : Int), .string s, .int .i64 n]).drew
  have hsl : (s.size : Int) ≤ 9223372036854775807 := by omega
  have hif := hm
  clear h hs hC hm hmx
  unfold strV at HC
  go_enter Try.func22, Try.ntmps22
  go_wp2
  go_region_held3 (fun W => W.cell? ⟨w.heap.size, 2, none⟩ = some (.string s) ∧ W.cell? ⟨w.heap.size, 3, none⟩ = some (.int .i64 n)) (go_keep) ((go_at_call 25; refine HC.out.mono ?_; rintro e w2 ⟨rfl, hg⟩; have hb2 : Blk w2 w.heap.size 31 _ := HB.out.keep hg.2 (by intro hh; exact absurd hh.2 (by omega)); have hc2 : w2.cell? ⟨w.heap.size, 2, none⟩ = some (.string s) := hb2.cell 2; have hc3 : w2.cell? ⟨w.heap.size, 3, none⟩ = some (.int .i64 n) := hb2.cell 3; have HG := Lib.hid hg; clear hg hb2))
  all_goals
    go_wp2
    go_ret
    refine Agn.of HG.out ?_
    exact bytes_beq _ _

set_option maxRecDepth 100000 in
set_option maxHeartbeats 2000000 in
theorem again_k6b (w : World) (S : Nat → Prop) (p : Option Nat) (ok : Bool) (l : List Nat) (x : Nat) (s : ByteArray) (n : Int) (h1 : -9223372036854775808 ≤ n) (h2 : n ≤ 9223372036854775807) (hs : s.size ≤ 1048576) (hm : ¬ n < (s.size : Int)) (h : Rd w S p ok l) :
    Calls Try.prog 22 #[ptr p, .agg #[.int .i64 6, .int .u64 (x : Int), .string s, .int .i64 n]] w (Agn w S p ok l (decide (strOf (valO ok (Cd.text l (mx n s)) []) = s)) (Cd.text l (mx n s))) := by
  have hmx : mx n s = n := if_neg hm
  have hC : Calls Try.prog 25 #[ptr p, .int .i64 n] (w.alloc (.cells #[.int .i64 6, .int .u64 (x : Int), .string s, .int .i64 n] 31)).drew fun e w' => e = .returned (strV ok l (mx n s)) ∧ Got (w.alloc (.cells #[.int .i64 6, .int .u64 (x : Int), .string s, .int .i64 n] 31)).drew (fun b => S b ∧ b < w.heap.size) p ok l (Cd.text l (mx n s)) w' :=
    by
      have := text_any _ _ p ok l (mx n s) (mx_bd n s h1 h2 hs).1 (mx_bd n s h1 h2 hs).2 (Rd.drew (Rd.alloc h (.cells #[.int .i64 6, .int .u64 (x : Int), .string s, .int .i64 n] 31)))
      rw [hmx] at this ⊢
      exact this
  have HC := Lib.hid hC
  have HB := Lib.hid (Blk.new w 31 #[.int .i64 6, .int .u64 (x : Int), .string s, .int .i64 n]).drew
  have hsl : (s.size : Int) ≤ 9223372036854775807 := by omega
  have hif : (if n < (s.size : Int) then (s.size : Int) else n) = n := if_neg hm
  clear h hs hC hm hmx
  unfold strV at HC
  go_enter Try.func22, Try.ntmps22
  go_wp2
  go_region_held3 (fun W => W.cell? ⟨w.heap.size, 2, none⟩ = some (.string s) ∧ W.cell? ⟨w.heap.size, 3, none⟩ = some (.int .i64 n)) (go_keep) ((go_at_call 25; refine HC.out.mono ?_; rintro e w2 ⟨rfl, hg⟩; have hb2 : Blk w2 w.heap.size 31 _ := HB.out.keep hg.2 (by intro hh; exact absurd hh.2 (by omega)); have hc2 : w2.cell? ⟨w.heap.size, 2, none⟩ = some (.string s) := hb2.cell 2; have hc3 : w2.cell? ⟨w.heap.size, 3, none⟩ = some (.int .i64 n) := hb2.cell 3; have HG := Lib.hid hg; clear hg hb2))
  all_goals
    go_wp2
    go_ret
    refine Agn.of HG.out ?_
    exact bytes_beq _ _

set_option maxRecDepth 100000 in
set_option maxHeartbeats 2000000 in
theorem again_k7 (w : World) (S : Nat → Prop) (p : Option Nat) (ok : Bool) (l : List Nat) (x : Nat) (s : ByteArray) (n : Int) (hs : s.size ≤ 1048576) (h : Rd w S p ok l) :
    Calls Try.prog 22 #[ptr p, .agg #[.int .i64 7, .int .u64 (x : Int), .string s, .int .i64 n]] w (Agn w S p ok l (decide (strOf (valO ok (takeO l (s.size : Int)) []) = s)) (takeO l (s.size : Int))) := by
  have HC := Lib.hid (rraw_any _ _ p ok l (s.size : Int) (by omega) (by omega) (Rd.drew (Rd.alloc h (.cells #[.int .i64 7, .int .u64 (x : Int), .string s, .int .i64 n] 31))))
  have HB := Lib.hid (Blk.new w 31 #[.int .i64 7, .int .u64 (x : Int), .string s, .int .i64 n]).drew
  have hsl : (s.size : Int) ≤ 9223372036854775807 := by omega
  clear h hs
  go_enter Try.func22, Try.ntmps22
  go_wp2
  go_region_with (go_at_call 47; refine HC.out.mono ?_; rintro e w2 ⟨v, k, rfl, hk, ho, hg⟩; obtain ⟨A, c, rfl, _, _, hr⟩ := ho.reads; have hcv := run_conv _ A k c _ w2 hr; have hb2 : Blk w2 w.heap.size 31 _ := HB.out.keep hg.2 (by intro hh; exact absurd hh.2 (by omega)); have hc2 : w2.cell? ⟨w.heap.size, 2, none⟩ = some (.string s) := hb2.cell 2; have HG := Lib.hid hg; clear hg hb2 hr ho hk)
  all_goals
    go_wp2
    go_ret
    refine Agn.of HG.out ?_
    exact bytes_beq _ _

set_option maxRecDepth 100000 in
theorem again_no (w : World) (S : Nat → Prop) (p : Option Nat) (ok : Bool) (l : List Nat) (k : Int) (x : Nat) (s : ByteArray) (n : Int) (hk : k < 0 ∨ 7 < k) (h : Rd w S p ok l) :
    Calls Try.prog 22 #[ptr p, .agg #[.int .i64 k, .int .u64 (x : Int), .string s, .int .i64 n]] w fun e w' => e = .returned (.bool true) ∧ Rd w' S p ok l ∧ Fr w w' S := by
  have HA := Lib.hid (Rd.alloc h (.cells #[.int .i64 k, .int .u64 (x : Int), .string s, .int .i64 n] 31))
  have h0 : (k == 0) = false := by simp; omega
  have h1 : (k == 1) = false := by simp; omega
  have h2 : (k == 2) = false := by simp; omega
  have h3 : (k == 3) = false := by simp; omega
  have h4 : (k == 4) = false := by simp; omega
  have h5 : (k == 5) = false := by simp; omega
  have h6 : (k == 6) = false := by simp; omega
  have h7 : (k == 7) = false := by simp; omega
  clear h hk
  go_enter Try.func22, Try.ntmps22
  go_wp2
  go_ret
  exact ⟨rfl, Rd.mono HA.out fun _ _ hb => hb.1, (Fr.refl _ _).alloc _⟩

/-! ### What was written is read; what was cut off is not -/
theorem fixO_yes (k x : Nat) (r : List Nat) : fixO (Cd.fixB k x ++ r) k = some (x % 256 ^ k, k) := by
  unfold fixO
  rw [takeO_yes (by simp [Cd.fixB_len])]
  simp only [Option.map_some]
  rw [List.take_left' (Cd.fixB_len k x), Cd.unfix_fixB]
theorem fixO_cut {l : List Nat} {k : Nat} (h : l.length < k) : fixO l k = none := by
  unfold fixO
  rw [takeO_no (by omega)]
  rfl
theorem intO_yes (y : Int) (h : Cd.zz y < 18446744073709551616) (r : List Nat) : intO (Cd.vi (Cd.zz y) ++ r) = some (y, (Cd.vi (Cd.zz y)).length) := by
  unfold intO
  rw [Cd.front_vi _ h]
  simp only [Option.map_some, Cd.unzz_zz]
theorem take_yes (s : ByteArray) (r : List Nat) : takeO (bs s ++ r) (s.size : Int) = some (bs s, s.size) := by
  rw [takeO_yes (by simp [bs_len]), List.take_left' (bs_len s)]
theorem tx_len (s : ByteArray) : (bs s).length = s.size := bs_len s

def Yes (w : World) (S : Nat → Prop) (p : Option Nat) (r : List Nat) (e : Ending) (w' : World) : Prop := e = .returned (.bool true) ∧ Rd w' S p true r ∧ Fr w w' S
theorem Agn.yes {α : Type} {w w' : World} {S : Nat → Prop} {p : Option Nat} {l r : List Nat} {b : Bool} {o : Option (α × Nat)} {e : Ending} {x : α} {n : Nat} (h : Agn w S p true l b o e w') (ho : o = some (x, n)) (hr : l.drop n = r) (hb : b = true) : Yes w S p r e w' := by
  obtain ⟨h1, h2, h3⟩ := h
  subst ho hb hr
  exact ⟨h1, h2, h3⟩

theorem again_yes (w : World) (S : Nat → Prop) (p : Option Nat) (it : It) (r : List Nat) (hi : it.Ok) (hs : it.s.size ≤ 1048576) (h : Rd w S p true (itB it ++ r)) :
    Calls Try.prog 22 #[ptr p, it.agg] w (Yes w S p r) := by
  obtain ⟨k, x, s, n⟩ := it
  have hx := hi.x1
  have hn1 := hi.n1
  have hn2 := hi.n2
  simp only at hx hs hn1 hn2
  unfold It.agg
  unfold itB at h
  simp only at h ⊢
  split at h
  · rename_i e; subst e
    refine (again_k0 w S p true _ x s n h).mono fun e w' hh => hh.yes (fixO_yes 1 x r) (List.drop_left' (Cd.fixB_len 1 x)) ?_
    rw [fixO_yes]; simp [valO]
  split at h
  · rename_i e; subst e
    refine (again_k1 w S p true _ x s n h).mono fun e w' hh => hh.yes (fixO_yes 2 x r) (List.drop_left' (Cd.fixB_len 2 x)) ?_
    rw [fixO_yes]; simp [valO]
  split at h
  · rename_i e; subst e
    refine (again_k2 w S p true _ x s n h).mono fun e w' hh => hh.yes (fixO_yes 4 x r) (List.drop_left' (Cd.fixB_len 4 x)) ?_
    rw [fixO_yes]; simp [valO]
  split at h
  · rename_i e; subst e
    refine (again_k3 w S p true _ x s n h).mono fun e w' hh => hh.yes (fixO_yes 8 x r) (List.drop_left' (Cd.fixB_len 8 x)) ?_
    rw [fixO_yes]; simp [valO]; omega
  split at h
  · rename_i e; subst e
    refine (again_k4 w S p true _ x s n h).mono fun e w' hh => hh.yes (Cd.front_vi x hx r) (List.drop_left' rfl) ?_
    rw [Cd.front_vi x hx r]; simp [valO]
  split at h
  · rename_i e; subst e
    have hz := Cd.zz_lt (sx x) (sx_bd x hx).1 (sx_bd x hx).2
    refine (again_k5 w S p true _ x s n hx h).mono fun e w' hh => hh.yes (intO_yes _ hz r) (List.drop_left' rfl) ?_
    rw [intO_yes _ hz r]; simp [valO]
  split at h
  · rename_i e; subst e
    have hm : ((bs s).length : Int) ≤ mx n s := by rw [bs_len]; unfold mx; split <;> omega
    have ht := Cd.text_tx (bs s) (mx n s) (by rw [bs_len]; omega) hm r
    have hd : decide (strOf (valO true (Cd.text (Cd.tx (bs s) ++ r) (mx n s)) []) = s) = true := by rw [ht]; simp [valO, strOf_bs]
    by_cases hns : n < (s.size : Int)
    · exact (again_k6a w S p true _ x s n hn1 hn2 hs hns h).mono fun e w' hh => hh.yes ht (List.drop_left' rfl) hd
    · exact (again_k6b w S p true _ x s n hn1 hn2 hs hns h).mono fun e w' hh => hh.yes ht (List.drop_left' rfl) hd
  split at h
  · rename_i e; subst e
    refine (again_k7 w S p true _ x s n hs h).mono fun e w' hh => hh.yes (take_yes s r) (List.drop_left' (bs_len s)) ?_
    rw [take_yes]; simp [valO, strOf_bs]
  · exact again_no w S p true r k x s n (by omega) h

/-- a shorter beginning of what was written -/
def Cut (w : World) (S : Nat → Prop) (p : Option Nat) (l : List Nat) (e : Ending) (w' : World) : Prop := e = .returned (.bool true) ∧ Rd w' S p false l ∧ Fr w w' S
theorem Agn.cut {α : Type} {w w' : World} {S : Nat → Prop} {p : Option Nat} {l : List Nat} {b : Bool} {o : Option (α × Nat)} {e : Ending} (h : Agn w S p true l b o e w') (ho : o = none) (hb : b = true) : Cut w S p l e w' := by
  obtain ⟨h1, h2, h3⟩ := h
  subst ho hb
  exact ⟨h1, h2, h3⟩
theorem again_cut (w : World) (S : Nat → Prop) (p : Option Nat) (it : It) (m : Nat) (hi : it.Ok) (hs : it.s.size ≤ 1048576) (hk : 0 ≤ it.k ∧ it.k ≤ 6) (hm : m < (itB it).length) (h : Rd w S p true ((itB it).take m)) :
    Calls Try.prog 22 #[ptr p, .agg #[.int .i64 it.k, .int .u64 0, .string ⟨#[]⟩, .int .i64 (it.s.size : Int)]] w (Cut w S p ((itB it).take m)) := by
  obtain ⟨k, x, s, n⟩ := it
  have hx := hi.x1
  simp only at hx hs hk ⊢
  unfold itB at h hm ⊢
  simp only at h hm ⊢
  split at h
  · rename_i e; subst e
    rw [if_pos rfl] at hm ⊢
    rw [Cd.fixB_len] at hm
    have hf := fixO_cut (l := (Cd.fixB 1 x).take m) (k := 1) (by simp [Cd.fixB_len]; omega)
    refine (again_k0 w S p true _ 0 ⟨#[]⟩ _ h).mono fun e w' hh => hh.cut hf ?_
    rw [hf]; simp [valO]
  split at h
  · rename_i e; subst e
    rw [if_neg (by omega), if_pos rfl] at hm ⊢
    rw [Cd.fixB_len] at hm
    have hf := fixO_cut (l := (Cd.fixB 2 x).take m) (k := 2) (by simp [Cd.fixB_len]; omega)
    refine (again_k1 w S p true _ 0 ⟨#[]⟩ _ h).mono fun e w' hh => hh.cut hf ?_
    rw [hf]; simp [valO]
  split at h
  · rename_i e; subst e
    rw [if_neg (by omega), if_neg (by omega), if_pos rfl] at hm ⊢
    rw [Cd.fixB_len] at hm
    have hf := fixO_cut (l := (Cd.fixB 4 x).take m) (k := 4) (by simp [Cd.fixB_len]; omega)
    refine (again_k2 w S p true _ 0 ⟨#[]⟩ _ h).mono fun e w' hh => hh.cut hf ?_
    rw [hf]; simp [valO]
  split at h
  · rename_i e; subst e
    rw [if_neg (by omega), if_neg (by omega), if_neg (by omega), if_pos rfl] at hm ⊢
    rw [Cd.fixB_len] at hm
    have hf := fixO_cut (l := (Cd.fixB 8 x).take m) (k := 8) (by simp [Cd.fixB_len]; omega)
    refine (again_k3 w S p true _ 0 ⟨#[]⟩ _ h).mono fun e w' hh => hh.cut hf ?_
    rw [hf]; simp [valO]
  split at h
  · rename_i e; subst e
    rw [if_neg (by omega), if_neg (by omega), if_neg (by omega), if_neg (by omega), if_pos rfl] at hm ⊢
    have hf := Cd.front_cut x m hm
    refine (again_k4 w S p true _ 0 ⟨#[]⟩ _ h).mono fun e w' hh => hh.cut hf ?_
    rw [hf]; simp [valO]
  split at h
  · rename_i e; subst e
    rw [if_neg (by omega), if_neg (by omega), if_neg (by omega), if_neg (by omega), if_neg (by omega), if_pos rfl] at hm ⊢
    have hf : intO ((Cd.vi (Cd.zz (sx x))).take m) = none := by unfold intO; rw [Cd.front_cut _ m hm]; rfl
    refine (again_k5 w S p true _ 0 ⟨#[]⟩ _ (by omega) h).mono fun e w' hh => hh.cut hf ?_
    rw [hf]; simp [valO, sx]
  split at h
  · rename_i e; subst e
    rw [if_neg (by omega), if_neg (by omega), if_neg (by omega), if_neg (by omega), if_neg (by omega), if_neg (by omega), if_pos rfl] at hm ⊢
    have hf := Cd.text_cut (bs s) (mx (s.size : Int) ⟨#[]⟩) m (by rw [bs_len]; omega) hm
    have hd : decide (strOf (valO true (Cd.text ((Cd.tx (bs s)).take m) (mx (s.size : Int) ⟨#[]⟩)) []) = ⟨#[]⟩) = true := by rw [hf]; rfl
    by_cases hns : (s.size : Int) < ((⟨#[]⟩ : ByteArray).size : Int)
    · exact (again_k6a w S p true _ 0 ⟨#[]⟩ _ (by omega) (by omega) (by simp [ByteArray.size]) hns h).mono fun e w' hh => hh.cut hf hd
    · exact (again_k6b w S p true _ 0 ⟨#[]⟩ _ (by omega) (by omega) (by simp [ByteArray.size]) hns h).mono fun e w' hh => hh.cut hf hd
  · omega
end Go.Proofs.Ytmnjmlnpmifiiaa
