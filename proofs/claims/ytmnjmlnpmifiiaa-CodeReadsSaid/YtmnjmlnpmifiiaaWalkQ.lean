/-
  THE WALK OF read: an item is asked for of both readers: both answer the same, and are the same behind it.
-/
import Derived.Test.YtmnjmlnpmifiiaaWalkP
import Derived.Test.YtmnjmlnpmifiiaaCodeWritesWalk
import Derived.Deep.RegionWith
import Derived.Deep.RegionHeld3
import Derived.Deep.DrawnRows
namespace Go.Proofs.Ytmnjmlnpmifiiaa
open Go.RowKit
attribute [local go_sem ↓] Go.wp_at_zero Go.wp_at_succ

/-- both readers have answered the same: they are the same behind it -/
def Same (w : World) (S T : Nat → Prop) (p : Option Nat) (g : Nat) (ok : Bool) (l : List Nat) (w' : World) : Prop :=
  ∃ ok' l', Rd w' S p ok' l' ∧ Qd w' T g ok' l' ∧ (ok = false → ok' = false ∧ l' = l) ∧ Fr w w' (fun b => S b ∨ T b)
def Two (w : World) (S T : Nat → Prop) (p : Option Nat) (g : Nat) (ok : Bool) (l : List Nat) (e : Ending) (w' : World) : Prop := e = .returned (.bool true) ∧ Same w S T p g ok l w'
theorem Qd.up {w : World} {S : Nat → Prop} {g : Nat} {ok : Bool} {l : List Nat} (h : Qd w S g ok l) : Qd w (fun b => S b ∧ b < w.heap.size) g ok l := Qd.mono h fun _ hb hs => ⟨hs, hb⟩
theorem Qd.alloc {w : World} {S : Nat → Prop} {g : Nat} {ok : Bool} {l : List Nat} (h : Qd w S g ok l) (o : Obj) : Qd (w.alloc o) (fun b => S b ∧ b < w.heap.size) g ok l :=
  Qd.keep (Qd.up h) (T := No) ((Fr.refl w No).alloc o) fun _ _ hn => hn
theorem okO_false {α : Type} (ok : Bool) (l : List Nat) (o : Option (α × Nat)) (h : ok = false) : okO ok o = false ∧ leftO ok l o = l := by subst h; exact ⟨rfl, rfl⟩

/-- the first reader's answer, then the second one's, at a world behind a new block -/
theorem same_of {α : Type} {w w1 w2 : World} {S T : Nat → Prop} {p : Option Nat} {g : Nat} {ok : Bool} {l : List Nat} {o : Option (α × Nat)} {ob : Obj} (hd : ∀ b, S b → ¬ T b)
    (h1 : Got (w.alloc ob) (fun b => S b ∧ b < w.heap.size) p ok l o w1) (h2 : Gq w1 (fun b => T b ∧ b < w.heap.size) g ok l o w2) : Same w S T p g ok l w2 := by
  refine ⟨okO ok o, leftO ok l o, Rd.mono (Rd.keep h1.1 h2.2 fun b hb ht => hd b hb.1 ht.1) fun _ _ hb => hb.1, Qd.mono h2.1 fun _ _ hb => hb.1, okO_false ok l o, ?_⟩
  exact (((Fr.refl w _).alloc ob).trans h1.2 fun b hb => Or.inl (Or.inl hb.1)).trans h2.2 fun b hb => Or.inl (Or.inr hb.1)
theorem same_drew {α : Type} {w w1 w2 : World} {S T : Nat → Prop} {p : Option Nat} {g : Nat} {ok : Bool} {l : List Nat} {o : Option (α × Nat)} {ob : Obj} (hd : ∀ b, S b → ¬ T b)
    (h1 : Got (w.alloc ob).drew (fun b => S b ∧ b < w.heap.size) p ok l o w1) (h2 : Gq w1 (fun b => T b ∧ b < w.heap.size) g ok l o w2) : Same w S T p g ok l w2 := by
  refine ⟨okO ok o, leftO ok l o, Rd.mono (Rd.keep h1.1 h2.2 fun b hb ht => hd b hb.1 ht.1) fun _ _ hb => hb.1, Qd.mono h2.1 fun _ _ hb => hb.1, okO_false ok l o, ?_⟩
  exact (((Fr.refl w _).alloc ob).drew.trans h1.2 fun b hb => Or.inl (Or.inl hb.1)).trans h2.2 fun b hb => Or.inl (Or.inr hb.1)
theorem Gq.int {w w' : World} {S : Nat → Prop} {g : Nat} {ok : Bool} {l : List Nat} (h : Gq w S g ok l (Cd.front l) w') : Gq w S g ok l (intO l) w' := by
  unfold Gq at h ⊢
  rw [intO_ok, intO_left]
  exact h
theorem fixO_lt (ok : Bool) (l : List Nat) (k : Nat) (hl : ∀ y ∈ l, y < 256) : valO ok (fixO l k) 0 < 256 ^ k := by
  rw [fixO_val]
  cases ok with
  | false => simp only [valO]; exact Nat.pow_pos (by decide)
  | true =>
    unfold takeO
    split
    · simp only [valO]
      refine Nat.lt_of_lt_of_le (Cd.unfix_lt _ fun x hx => hl x (List.mem_of_mem_take hx)) (Nat.pow_le_pow_right (by omega) (by simp; omega))
    · simp only [valO]; exact Nat.pow_pos (by decide)

set_option maxRecDepth 100000 in
set_option maxHeartbeats 1000000 in
theorem read_k0 (w : World) (S T : Nat → Prop) (p : Option Nat) (g : Nat) (ok : Bool) (l : List Nat) (x : Nat) (s : ByteArray) (n : Int) (hd : ∀ b, S b → ¬ T b) (h : Rd w S p ok l) (hq : Qd w T g ok l) :
    Calls Try.prog 16 #[ptr p, qp g, .agg #[.int .i64 0, .int .u64 (x : Int), .string s, .int .i64 n]] w (Two w S T p g ok l) := by
  have HD := Lib.hid hd
  have HQ := Lib.hid (Qd.alloc hq (.cells #[.int .i64 0, .int .u64 (x : Int), .string s, .int .i64 n] 31))
  have HC := Lib.hid (ru8_any _ _ p ok l (Rd.alloc h (.cells #[.int .i64 0, .int .u64 (x : Int), .string s, .int .i64 n] 31)))
  have hb0 : (∀ b, (S b ∧ b < w.heap.size) → ¬ (T b ∧ b < w.heap.size)) := fun b hb ht => hd b hb.1 ht.1
  have HB0 := Lib.hid hb0
  have hv : valO ok (fixO l 1) 0 < 256 ^ 1 := fixO_lt ok l 1 (Rd.lt h)
  have HV := Lib.hid hv
  clear h hq hd hb0
  go_enter Try.func16, Try.ntmps16
  go_wp2_with fail
  refine HC.out.mono ?_
  rintro e w1 ⟨rfl, hg⟩
  have HG := Lib.hid hg
  have HC2 := Lib.hid (qfixed_any w1 _ g ok l 1 (by omega) (Qd.keep HQ.out hg.2 fun b hb hs => HB0.out b hs hb))
  clear hg
  go_wp2_with fail
  refine HC2.out.mono ?_
  rintro e w2 ⟨rfl, hg2⟩
  have HG2 := Lib.hid hg2
  clear hg2
  go_wp2
  go_ret
  exact ⟨by have hv := HV.out; simp <;> rw [IntKind.wrap_u64] <;> omega, same_of HD.out HG.out HG2.out⟩

set_option maxRecDepth 100000 in
set_option maxHeartbeats 1000000 in
theorem read_k1 (w : World) (S T : Nat → Prop) (p : Option Nat) (g : Nat) (ok : Bool) (l : List Nat) (x : Nat) (s : ByteArray) (n : Int) (hd : ∀ b, S b → ¬ T b) (h : Rd w S p ok l) (hq : Qd w T g ok l) :
    Calls Try.prog 16 #[ptr p, qp g, .agg #[.int .i64 1, .int .u64 (x : Int), .string s, .int .i64 n]] w (Two w S T p g ok l) := by
  have HD := Lib.hid hd
  have HQ := Lib.hid (Qd.alloc hq (.cells #[.int .i64 1, .int .u64 (x : Int), .string s, .int .i64 n] 31))
  have HC := Lib.hid (ru16_any _ _ p ok l (Rd.alloc h (.cells #[.int .i64 1, .int .u64 (x : Int), .string s, .int .i64 n] 31)))
  have hb0 : (∀ b, (S b ∧ b < w.heap.size) → ¬ (T b ∧ b < w.heap.size)) := fun b hb ht => hd b hb.1 ht.1
  have HB0 := Lib.hid hb0
  have hv : valO ok (fixO l 2) 0 < 256 ^ 2 := fixO_lt ok l 2 (Rd.lt h)
  have HV := Lib.hid hv
  clear h hq hd hb0
  go_enter Try.func16, Try.ntmps16
  go_wp2_with fail
  refine HC.out.mono ?_
  rintro e w1 ⟨rfl, hg⟩
  have HG := Lib.hid hg
  have HC2 := Lib.hid (qfixed_any w1 _ g ok l 2 (by omega) (Qd.keep HQ.out hg.2 fun b hb hs => HB0.out b hs hb))
  clear hg
  go_wp2_with fail
  refine HC2.out.mono ?_
  rintro e w2 ⟨rfl, hg2⟩
  have HG2 := Lib.hid hg2
  clear hg2
  go_wp2
  go_ret
  exact ⟨by have hv := HV.out; simp <;> rw [IntKind.wrap_u64] <;> omega, same_of HD.out HG.out HG2.out⟩

set_option maxRecDepth 100000 in
set_option maxHeartbeats 1000000 in
theorem read_k2 (w : World) (S T : Nat → Prop) (p : Option Nat) (g : Nat) (ok : Bool) (l : List Nat) (x : Nat) (s : ByteArray) (n : Int) (hd : ∀ b, S b → ¬ T b) (h : Rd w S p ok l) (hq : Qd w T g ok l) :
    Calls Try.prog 16 #[ptr p, qp g, .agg #[.int .i64 2, .int .u64 (x : Int), .string s, .int .i64 n]] w (Two w S T p g ok l) := by
  have HD := Lib.hid hd
  have HQ := Lib.hid (Qd.alloc hq (.cells #[.int .i64 2, .int .u64 (x : Int), .string s, .int .i64 n] 31))
  have HC := Lib.hid (ru32_any _ _ p ok l (Rd.alloc h (.cells #[.int .i64 2, .int .u64 (x : Int), .string s, .int .i64 n] 31)))
  have hb0 : (∀ b, (S b ∧ b < w.heap.size) → ¬ (T b ∧ b < w.heap.size)) := fun b hb ht => hd b hb.1 ht.1
  have HB0 := Lib.hid hb0
  have hv : valO ok (fixO l 4) 0 < 256 ^ 4 := fixO_lt ok l 4 (Rd.lt h)
  have HV := Lib.hid hv
  clear h hq hd hb0
  go_enter Try.func16, Try.ntmps16
  go_wp2_with fail
  refine HC.out.mono ?_
  rintro e w1 ⟨rfl, hg⟩
  have HG := Lib.hid hg
  have HC2 := Lib.hid (qfixed_any w1 _ g ok l 4 (by omega) (Qd.keep HQ.out hg.2 fun b hb hs => HB0.out b hs hb))
  clear hg
  go_wp2_with fail
  refine HC2.out.mono ?_
  rintro e w2 ⟨rfl, hg2⟩
  have HG2 := Lib.hid hg2
  clear hg2
  go_wp2
  go_ret
  exact ⟨by have hv := HV.out; simp <;> rw [IntKind.wrap_u64] <;> omega, same_of HD.out HG.out HG2.out⟩

set_option maxRecDepth 100000 in
set_option maxHeartbeats 1000000 in
theorem read_k3 (w : World) (S T : Nat → Prop) (p : Option Nat) (g : Nat) (ok : Bool) (l : List Nat) (x : Nat) (s : ByteArray) (n : Int) (hd : ∀ b, S b → ¬ T b) (h : Rd w S p ok l) (hq : Qd w T g ok l) :
    Calls Try.prog 16 #[ptr p, qp g, .agg #[.int .i64 3, .int .u64 (x : Int), .string s, .int .i64 n]] w (Two w S T p g ok l) := by
  have HD := Lib.hid hd
  have HQ := Lib.hid (Qd.alloc hq (.cells #[.int .i64 3, .int .u64 (x : Int), .string s, .int .i64 n] 31))
  have HC := Lib.hid (ru64_any _ _ p ok l (Rd.alloc h (.cells #[.int .i64 3, .int .u64 (x : Int), .string s, .int .i64 n] 31)))
  have hb0 : (∀ b, (S b ∧ b < w.heap.size) → ¬ (T b ∧ b < w.heap.size)) := fun b hb ht => hd b hb.1 ht.1
  have HB0 := Lib.hid hb0
  clear h hq hd hb0
  go_enter Try.func16, Try.ntmps16
  go_wp2_with fail
  refine HC.out.mono ?_
  rintro e w1 ⟨rfl, hg⟩
  have HG := Lib.hid hg
  have HC2 := Lib.hid (qfixed_any w1 _ g ok l 8 (by omega) (Qd.keep HQ.out hg.2 fun b hb hs => HB0.out b hs hb))
  clear hg
  go_wp2_with fail
  refine HC2.out.mono ?_
  rintro e w2 ⟨rfl, hg2⟩
  have HG2 := Lib.hid hg2
  clear hg2
  go_wp2
  go_ret
  exact ⟨by simp, same_of HD.out HG.out HG2.out⟩

set_option maxRecDepth 100000 in
set_option maxHeartbeats 1000000 in
theorem read_k4 (w : World) (S T : Nat → Prop) (p : Option Nat) (g : Nat) (ok : Bool) (l : List Nat) (x : Nat) (s : ByteArray) (n : Int) (hd : ∀ b, S b → ¬ T b) (h : Rd w S p ok l) (hq : Qd w T g ok l) :
    Calls Try.prog 16 #[ptr p, qp g, .agg #[.int .i64 4, .int .u64 (x : Int), .string s, .int .i64 n]] w (Two w S T p g ok l) := by
  have HD := Lib.hid hd
  have HQ := Lib.hid (Qd.alloc hq (.cells #[.int .i64 4, .int .u64 (x : Int), .string s, .int .i64 n] 31))
  have HC := Lib.hid (uint_any _ _ p ok l (Rd.alloc h (.cells #[.int .i64 4, .int .u64 (x : Int), .string s, .int .i64 n] 31)))
  have hb0 : (∀ b, (S b ∧ b < w.heap.size) → ¬ (T b ∧ b < w.heap.size)) := fun b hb ht => hd b hb.1 ht.1
  have HB0 := Lib.hid hb0
  clear h hq hd hb0
  go_enter Try.func16, Try.ntmps16
  go_wp2_with fail
  refine HC.out.mono ?_
  rintro e w1 ⟨rfl, hg⟩
  have HG := Lib.hid hg
  have HC2 := Lib.hid (quint_any w1 _ g ok l (Qd.keep HQ.out hg.2 fun b hb hs => HB0.out b hs hb))
  clear hg
  go_wp2_with fail
  refine HC2.out.mono ?_
  rintro e w2 ⟨rfl, hg2⟩
  have HG2 := Lib.hid hg2
  clear hg2
  go_wp2
  go_ret
  exact ⟨by simp, same_of HD.out HG.out HG2.out⟩

set_option maxRecDepth 100000 in
set_option maxHeartbeats 1000000 in
theorem read_k5 (w : World) (S T : Nat → Prop) (p : Option Nat) (g : Nat) (ok : Bool) (l : List Nat) (x : Nat) (s : ByteArray) (n : Int) (hd : ∀ b, S b → ¬ T b) (h : Rd w S p ok l) (hq : Qd w T g ok l) :
    Calls Try.prog 16 #[ptr p, qp g, .agg #[.int .i64 5, .int .u64 (x : Int), .string s, .int .i64 n]] w (Two w S T p g ok l) := by
  have HD := Lib.hid hd
  have HQ := Lib.hid (Qd.alloc hq (.cells #[.int .i64 5, .int .u64 (x : Int), .string s, .int .i64 n] 31))
  have HC := Lib.hid (rint_any _ _ p ok l (Rd.alloc h (.cells #[.int .i64 5, .int .u64 (x : Int), .string s, .int .i64 n] 31)))
  have hb0 : (∀ b, (S b ∧ b < w.heap.size) → ¬ (T b ∧ b < w.heap.size)) := fun b hb ht => hd b hb.1 ht.1
  have HB0 := Lib.hid hb0
  clear h hq hd hb0
  go_enter Try.func16, Try.ntmps16
  go_wp2_with fail
  refine HC.out.mono ?_
  rintro e w1 ⟨rfl, hg⟩
  have HG := Lib.hid hg
  have HC2 := Lib.hid (quint_any w1 _ g ok l (Qd.keep HQ.out hg.2 fun b hb hs => HB0.out b hs hb))
  clear hg
  go_wp2_with fail
  refine HC2.out.mono ?_
  rintro e w2 ⟨rfl, hg2⟩
  have HG2 := Lib.hid (Gq.int hg2)
  have HU := Lib.hid (unfold_any _ (valO_lt ok l) w2)
  clear hg2
  rw [intO_val]
  go_wp2_with (go_at_call 45; refine HU.out.mono ?_; rintro e w' ⟨rfl, rfl⟩)
  go_ret
  exact ⟨by simp, same_of HD.out HG.out HG2.out⟩

set_option maxRecDepth 100000 in
set_option maxHeartbeats 2000000 in
theorem read_k6 (w : World) (S T : Nat → Prop) (p : Option Nat) (g : Nat) (ok : Bool) (l : List Nat) (x : Nat) (s : ByteArray) (n : Int) (h1 : -9223372036854775808 ≤ n) (h2 : n ≤ 9223372036854775807) (hd : ∀ b, S b → ¬ T b) (h : Rd w S p ok l) (hq : Qd w T g ok l) :
    Calls Try.prog 16 #[ptr p, qp g, .agg #[.int .i64 6, .int .u64 (x : Int), .string s, .int .i64 n]] w (Two w S T p g ok l) := by
  have HD := Lib.hid hd
  have HQ := Lib.hid (Qd.drew (Qd.alloc hq (.cells #[.int .i64 6, .int .u64 (x : Int), .string s, .int .i64 n] 31)))
  have HC := Lib.hid (text_any _ _ p ok l n h1 h2 (Rd.drew (Rd.alloc h (.cells #[.int .i64 6, .int .u64 (x : Int), .string s, .int .i64 n] 31))))
  have hb0 : (∀ b, (S b ∧ b < w.heap.size) → ¬ (T b ∧ b < w.heap.size)) := fun b hb ht => hd b hb.1 ht.1
  have HB0 := Lib.hid hb0
  have HB := Lib.hid (Blk.new w 31 #[.int .i64 6, .int .u64 (x : Int), .string s, .int .i64 n]).drew
  clear h hq hd hb0
  unfold strV at HC
  go_enter Try.func16, Try.ntmps16
  go_wp2
  go_region_held3 (fun W => W.cell? ⟨w.heap.size, 3, none⟩ = some (.int .i64 n)) (go_keep) (first
    | (go_at_call 25; refine HC.out.mono ?_; rintro e w1 ⟨rfl, hg⟩; have hb1 : Blk w1 w.heap.size 31 _ := HB.out.keep hg.2 (by intro hh; exact absurd hh.2 (by omega)); have hc1 : w1.cell? ⟨w.heap.size, 3, none⟩ = some (.int .i64 n) := hb1.cell 3; have HG := Lib.hid hg; have HBB := Lib.hid hb1; have HC2 := Lib.hid (qtext_any w1 _ g ok l n h1 h2 (Qd.keep HQ.out hg.2 fun b hb hs => HB0.out b hs hb)); clear hg hb1; unfold strV at HC2)
    | (go_at_call 46; refine HC2.out.mono ?_; rintro e w2 ⟨rfl, hg2⟩; have hc2 : w2.cell? ⟨w.heap.size, 3, none⟩ = some (.int .i64 n) := (HBB.out.keep hg2.2 (by intro hh; exact absurd hh.2 (by omega))).cell 3; have HG2 := Lib.hid hg2; clear hg2))
  all_goals
    go_wp2
    go_ret
    exact ⟨by simp, same_drew HD.out HG.out HG2.out⟩

set_option maxRecDepth 100000 in
theorem read_k8 (w : World) (S T : Nat → Prop) (p : Option Nat) (g : Nat) (ok : Bool) (l : List Nat) (x : Nat) (s : ByteArray) (n : Int) (hd : ∀ b, S b → ¬ T b) (h : Rd w S p ok l) (hq : Qd w T g ok l) :
    Calls Try.prog 16 #[ptr p, qp g, .agg #[.int .i64 8, .int .u64 (x : Int), .string s, .int .i64 n]] w (Two w S T p g ok l) := by
  have HD := Lib.hid hd
  have HQ := Lib.hid (Qd.alloc hq (.cells #[.int .i64 8, .int .u64 (x : Int), .string s, .int .i64 n] 31))
  have HC := Lib.hid (end_any _ _ p ok l (Rd.alloc h (.cells #[.int .i64 8, .int .u64 (x : Int), .string s, .int .i64 n] 31)))
  have hb0 : (∀ b, (S b ∧ b < w.heap.size) → ¬ (T b ∧ b < w.heap.size)) := fun b hb ht => hd b hb.1 ht.1
  have HB0 := Lib.hid hb0
  clear h hq hd hb0
  go_enter Try.func16, Try.ntmps16
  go_wp2_with fail
  refine HC.out.mono ?_
  rintro e w1 ⟨rfl, hr, hf⟩
  have HC2 := Lib.hid (qend_any w1 _ g ok l (Qd.keep HQ.out hf fun b hb hs => HB0.out b hs hb))
  have HR := Lib.hid hr
  have HF := Lib.hid hf
  clear hr hf
  go_wp2_with fail
  refine HC2.out.mono ?_
  rintro e w2 ⟨rfl, hr2, hf2⟩
  have HR2 := Lib.hid hr2
  have HF2 := Lib.hid hf2
  clear hr2 hf2
  go_wp2
  go_ret
  refine ⟨by simp, ok && l.isEmpty, l, Rd.mono (Rd.keep HR.out HF2.out fun b hb ht => HD.out b hb.1 ht.1) fun _ _ hb => hb.1, Qd.mono HR2.out fun _ _ hb => hb.1, fun h => ⟨by rw [h]; rfl, rfl⟩, ?_⟩
  exact (((Fr.refl w _).alloc _).trans HF.out fun b hb => Or.inl (Or.inl hb.1)).trans HF2.out fun b hb => Or.inl (Or.inr hb.1)

set_option maxRecDepth 100000 in
theorem read_no (w : World) (S T : Nat → Prop) (p : Option Nat) (g : Nat) (ok : Bool) (l : List Nat) (k : Int) (x : Nat) (s : ByteArray) (n : Int) (hk : k < 0 ∨ 8 < k) (h : Rd w S p ok l) (hq : Qd w T g ok l) :
    Calls Try.prog 16 #[ptr p, qp g, .agg #[.int .i64 k, .int .u64 (x : Int), .string s, .int .i64 n]] w (Two w S T p g ok l) := by
  have HQ := Lib.hid (Qd.alloc hq (.cells #[.int .i64 k, .int .u64 (x : Int), .string s, .int .i64 n] 31))
  have HR := Lib.hid (Rd.alloc h (.cells #[.int .i64 k, .int .u64 (x : Int), .string s, .int .i64 n] 31))
  have h0 : (k == 0) = false := by simp; omega
  have h1 : (k == 1) = false := by simp; omega
  have h2 : (k == 2) = false := by simp; omega
  have h3 : (k == 3) = false := by simp; omega
  have h4 : (k == 4) = false := by simp; omega
  have h5 : (k == 5) = false := by simp; omega
  have h6 : (k == 6) = false := by simp; omega
  have h7 : (k == 7) = false := by simp; omega
  have h8 : (k == 8) = false := by simp; omega
  clear h hq hk
  go_enter Try.func16, Try.ntmps16
  go_wp2
  go_ret
  exact ⟨rfl, ok, l, Rd.mono HR.out fun _ _ hb => hb.1, Qd.mono HQ.out fun _ _ hb => hb.1, fun h => ⟨h, rfl⟩, (Fr.refl _ _).alloc _⟩

theorem takeO_le (ok : Bool) (l : List Nat) (n : Int) : (valO ok (takeO l n) []).length ≤ l.length := by
  cases ok with
  | false => simp [valO]
  | true =>
    unfold takeO
    split
    · simp [valO]; omega
    · simp [valO]
/-- a row of the call's own that is not the readers' is written: they stay -/
theorem Same.keep {w w' w2 : World} {S T : Nat → Prop} {p : Option Nat} {g : Nat} {ok : Bool} {l : List Nat} {M : Nat} (h : Same w (fun b => S b ∧ b < M) (fun b => T b ∧ b < M) p g ok l w') (hf : Fr w' w2 (fun b => M ≤ b)) (hM : w.heap.size ≤ M) : Same w S T p g ok l w2 := by
  obtain ⟨ok', l', h1, h2, h3, h4⟩ := h
  refine ⟨ok', l', Rd.mono (Rd.keep h1 hf fun b hb hm => by have := hb.2; omega) fun _ _ hb => hb.1, Qd.mono (Qd.keep h2 hf fun b hb hm => by have := hb.2; omega) fun _ _ hb => hb.1, h3, ?_⟩
  exact (h4.mono fun b _ hb => hb.elim (fun h => Or.inl h.1) fun h => Or.inr h.1).trans hf fun b hb => Or.inr (by omega)

set_option maxRecDepth 100000 in
set_option maxHeartbeats 2000000 in
theorem read_k7 (w : World) (S T : Nat → Prop) (p : Option Nat) (g : Nat) (ok : Bool) (l : List Nat) (x : Nat) (s : ByteArray) (n : Int) (h1 : -9223372036854775808 ≤ n) (h2 : n ≤ 9223372036854775807) (hd : ∀ b, S b → ¬ T b) (h : Rd w S p ok l) (hq : Qd w T g ok l) :
    Calls Try.prog 16 #[ptr p, qp g, .agg #[.int .i64 7, .int .u64 (x : Int), .string s, .int .i64 n]] w (Two w S T p g ok l) := by
  have HD := Lib.hid hd
  have HQ := Lib.hid (Qd.alloc hq (.cells #[.int .i64 7, .int .u64 (x : Int), .string s, .int .i64 n] 31))
  have HC := Lib.hid (rraw_any _ _ p ok l n h1 h2 (Rd.alloc h (.cells #[.int .i64 7, .int .u64 (x : Int), .string s, .int .i64 n] 31)))
  have HB := Lib.hid (Blk.new w 31 #[.int .i64 7, .int .u64 (x : Int), .string s, .int .i64 n])
  have hlen := Rd.len h
  have htl := takeO_le ok l n
  clear h hq hd
  go_enter Try.func16, Try.ntmps16
  go_wp2_with fail
  refine HC.out.mono ?_
  rintro e w1 ⟨v, k, rfl, hk, ho, hg⟩
  simp only [World.size_alloc] at ho
  have hf1 := hg.2
  have hs1 := hf1.size
  simp only [World.size_alloc] at hs1
  obtain ⟨A1, cc1, rfl, _, _, hr1⟩ := ho.reads
  have hb1 : Blk w1.drew w.heap.size 31 _ := (HB.out.keep hf1 (by intro hh; exact absurd hh.2 (by omega))).drew
  have hc1 : w1.drew.cell? ⟨w.heap.size, 3, none⟩ = some (.int .i64 n) := hb1.cell 3
  have hcv1 := run_conv _ A1 k cc1 _ w1.drew hr1.drew
  have HC2 := Lib.hid (qtake_any w1.drew _ g ok l n h1 h2 (Qd.drew (Qd.keep HQ.out hf1 fun b hb hs => HD.out b hs.1 hb.1)))
  obtain ⟨t, ht⟩ : ∃ t, t = valO ok (takeO l n) [] := ⟨_, rfl⟩
  have hk2 : k = t.length := by rw [ht]; exact hk
  have hkb : k ≤ 140737488351232 := by rw [hk]; omega
  rw [← ht] at ho hr1 hcv1
  have HT := Lib.hid ht
  have HK := Lib.hid hk2
  have HO := Lib.hid ho
  have HR1 := Lib.hid hr1.drew
  have HG := Lib.hid hg
  have HBB := Lib.hid hb1
  clear ho hg hf1 hr1 hb1 hk hk2 ht hlen htl
  go_wp2_with fail
  go_region_with (go_at_call 48; refine HC2.out.mono ?_; rintro e w2 ⟨v2, k2, rfl, hk2, ho2, hg2⟩; obtain ⟨A2, cc2, rfl, _, _, hr2⟩ := ho2.reads; rw [← HT.out] at hr2; have hcv2 := run_conv _ A2 k2 cc2 _ w2 hr2; have hr1b := HR1.out.keep hg2.2 (fun b hb ht => by have h1 := ht.2; omega); have hcv3 := run_conv _ A1 k cc1 _ w2 hr1b; have hc2 : w2.cell? ⟨w.heap.size, 3, none⟩ = some (.int .i64 n) := (HBB.out.keep hg2.2 (by intro hh; exact absurd hh.2 (by omega))).cell 3; have HG2 := Lib.hid hg2; have HR2 := Lib.hid hr1b; clear hg2 hk2 ho2 hr2 hr1b)
  all_goals
    have ho2 := HO.out.drew.keep HG2.out.2 (fun b hb ht => by have h1 := ht.2; omega)
    have HO2 := Lib.hid ho2
    have hsame : Same w (fun b => S b ∧ b < w.heap.size + 1) (fun b => T b ∧ b < w.heap.size + 1) p g ok l w2 := by
      have hf2 := HG2.out.2
      refine ⟨okO ok (takeO l n), leftO ok l (takeO l n), Rd.mono (Rd.keep (Rd.drew HG.out.1) hf2 fun b hb ht => HD.out b hb.1 ht.1) fun _ _ hb => ⟨hb.1, by have := hb.2; omega⟩, Qd.mono HG2.out.1 fun _ _ hb => ⟨hb.1, by have := hb.2; omega⟩, okO_false ok l _, ?_⟩
      refine (((Fr.refl w _).alloc _).trans HG.out.2 fun b hb => Or.inl (Or.inl ⟨hb.1, by have := hb.2; omega⟩)).drew.trans hf2 fun b hb => Or.inl (Or.inr ⟨hb.1, by have := hb.2; omega⟩)
    have HSM := Lib.hid hsame
    clear ho2 hsame
    go_wp2_with fail
    go_loopw [10] (fun i wq => ∃ (j : Nat) (q : List Nat), j ≤ k ∧ i = .int .i64 (j : Int) ∧ Ow wq (fun b => w.heap.size + 1 ≤ b) (.slice A1 k cc1) k q ∧ Fr w2 wq (fun b => w.heap.size + 1 ≤ b)) (fun i _ => k - (intOf i).toNat)
    case atStart => exact ⟨0, t, by omega, rfl, HO2.out, Fr.refl _ _⟩
    case round =>
      obtain ⟨j, q, hj, rfl, hoq, hfq⟩ := hrel
      by_cases hjl : j < k
      · obtain ⟨gg, cap, e, hS, hc, hf, hset⟩ := codeWrites.Ow.cell_at hoq hjl
        injection e with e1 e2 e3
        subst e1 e3
        have HSET := Lib.hid (hset 0 (by omega))
        have HBQ := Lib.hid (hfq.setCell (p := ⟨gg, j, none⟩) (Or.inl hS) (.int .u8 0))
        clear hset hoq hfq
        go_wp2
        go_roundw
        case rel => exact ⟨j + 1, _, by omega, by go_num, HSET.out, HBQ.out⟩
        case measure => simp [intOf]; omega
      · have HFQ := Lib.hid hfq
        clear hoq hfq
        go_wp2
        go_ret
        exact ⟨rfl, HSM.out.keep HFQ.out (by omega)⟩

theorem read_any (w : World) (S T : Nat → Prop) (p : Option Nat) (g : Nat) (ok : Bool) (l : List Nat) (it : It) (hi : it.Ok) (hd : ∀ b, S b → ¬ T b) (h : Rd w S p ok l) (hq : Qd w T g ok l) :
    Calls Try.prog 16 #[ptr p, qp g, it.agg] w (Two w S T p g ok l) := by
  obtain ⟨k, x, s, n⟩ := it
  have hn1 := hi.n1
  have hn2 := hi.n2
  simp only at hn1 hn2
  unfold It.agg
  simp only
  by_cases h0 : k = 0
  · subst h0; exact read_k0 w S T p g ok l x s n hd h hq
  by_cases h1 : k = 1
  · subst h1; exact read_k1 w S T p g ok l x s n hd h hq
  by_cases h2 : k = 2
  · subst h2; exact read_k2 w S T p g ok l x s n hd h hq
  by_cases h3 : k = 3
  · subst h3; exact read_k3 w S T p g ok l x s n hd h hq
  by_cases h4 : k = 4
  · subst h4; exact read_k4 w S T p g ok l x s n hd h hq
  by_cases h5 : k = 5
  · subst h5; exact read_k5 w S T p g ok l x s n hd h hq
  by_cases h6 : k = 6
  · subst h6; exact read_k6 w S T p g ok l x s n hn1 hn2 hd h hq
  by_cases h7 : k = 7
  · subst h7; exact read_k7 w S T p g ok l x s n hn1 hn2 hd h hq
  by_cases h8 : k = 8
  · subst h8; exact read_k8 w S T p g ok l x s n hd h hq
  exact read_no w S T p g ok l k x s n (by omega) h hq
end Go.Proofs.Ytmnjmlnpmifiiaa
