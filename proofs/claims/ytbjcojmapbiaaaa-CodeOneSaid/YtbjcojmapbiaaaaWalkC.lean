/-
  THE WALKS OF THE WRITER's CALLS: of any writer, sound or not, or nil: what each call writes.
-/
import Derived.Test.YtbjcojmapbiaaaaWalkB
import Derived.Lib.SliceRun
namespace Go.Proofs.Ytbjcojmapbiaaaa
open Go.RowKit

def put (ok : Bool) (l k : List Nat) : List Nat := if ok then l ++ k else l
/-- k has been written to the writer p -/
def Wrote (w : World) (S : Nat → Prop) (p : Option Nat) (ok : Bool) (l k : List Nat) (w' : World) : Prop := Wr w' (Up S w) p ok (put ok l k) ∧ Fr w w' S
theorem Wrote.of_true {w w' : World} {S : Nat → Prop} {g : Nat} {l k : List Nat} (h : Wr w' (Up S w) (some g) true (l ++ k) ∧ Fr w w' S) : Wrote w S (some g) true l k w' := h
theorem Wrote.of_false {w : World} {S : Nat → Prop} {p : Option Nat} {l : List Nat} (h : Wr w S p false l) (k : List Nat) : Wrote w S p false l k w := ⟨Wr.mono h fun _ _ hb => Or.inl hb, Fr.refl _ _⟩
theorem some_of_true {w : World} {S : Nat → Prop} {p : Option Nat} {l : List Nat} (h : Wr w S p true l) : ∃ g, p = some g := by
  cases p with
  | none => exact absurd h.1 (by simp)
  | some g => exact ⟨g, rfl⟩

/-! ### Texts as bytes -/
def bs (s : ByteArray) : List Nat := s.data.toList.map UInt8.toNat
theorem bs_len (s : ByteArray) : (bs s).length = s.size := by simp [bs]
theorem bs_lt (s : ByteArray) : ∀ x ∈ bs s, x < 256 := by
  intro x hx
  simp only [bs, List.mem_map] at hx
  obtain ⟨b, _, rfl⟩ := hx
  exact b.toNat_lt
theorem bs_cells (s : ByteArray) : Lib.strCells s = u8s (bs s) := by simp [Lib.strCells, u8s, bs, Function.comp_def]
def strOf (l : List Nat) : ByteArray := ⟨(l.map UInt8.ofNat).toArray⟩
theorem strOf_bs (s : ByteArray) : strOf (bs s) = s := by
  unfold strOf bs
  have : (List.map UInt8.ofNat (List.map UInt8.toNat s.data.toList)) = s.data.toList := by
    rw [List.map_map]
    conv => rhs; rw [← List.map_id s.data.toList]
    exact List.map_congr_left fun b _ => by simp
  rw [this]
theorem bs_strOf (l : List Nat) (h : ∀ x ∈ l, x < 256) : bs (strOf l) = l := by
  unfold strOf bs
  simp only [List.map_map]
  conv => rhs; rw [← List.map_id l]
  refine List.map_congr_left fun x hx => ?_
  have := h x hx
  simp
  omega
theorem strOf_inj {l k : List Nat} (hl : ∀ x ∈ l, x < 256) (hk : ∀ x ∈ k, x < 256) (h : strOf l = strOf k) : l = k := by
  rw [← bs_strOf l hl, ← bs_strOf k hk, h]
theorem wuint_no (w : World) (S : Nat → Prop) (p : Option Nat) (l : List Nat) (x : Int) (h : Wr w S p false l) :
    Calls Try.prog 26 #[ptr p, .int .u64 x] w fun e w' => e = .returned (.tuple #[]) ∧ w = w' := by
  have HW := Lib.hid (writable_any w S p false l h)
  clear h
  go_enter Try.func26, Try.ntmps26
  go_wp2_with (go_at_call 52; refine HW.out.mono ?_; rintro e w' ⟨rfl, rfl⟩)
  refine bodyPost_ret (results_none rfl _ _ _) rfl ?_
  exact ⟨rfl, rfl⟩
theorem wfix8_no (w : World) (S : Nat → Prop) (p : Option Nat) (l : List Nat) (x : Int) (h : Wr w S p false l) :
    Calls Try.prog 56 #[ptr p, .int .u8 x] w fun e w' => e = .returned (.tuple #[]) ∧ w = w' := by
  have HW := Lib.hid (writable_any w S p false l h)
  clear h
  go_enter Try.func56, Try.ntmps56
  go_wp2_with (go_at_call 52; refine HW.out.mono ?_; rintro e w' ⟨rfl, rfl⟩)
  refine bodyPost_ret (results_none rfl _ _ _) rfl ?_
  exact ⟨rfl, rfl⟩
theorem wfix16_no (w : World) (S : Nat → Prop) (p : Option Nat) (l : List Nat) (x : Int) (h : Wr w S p false l) :
    Calls Try.prog 55 #[ptr p, .int .u16 x] w fun e w' => e = .returned (.tuple #[]) ∧ w = w' := by
  have HW := Lib.hid (writable_any w S p false l h)
  clear h
  go_enter Try.func55, Try.ntmps55
  go_wp2_with (go_at_call 52; refine HW.out.mono ?_; rintro e w' ⟨rfl, rfl⟩)
  refine bodyPost_ret (results_none rfl _ _ _) rfl ?_
  exact ⟨rfl, rfl⟩
theorem wfix32_no (w : World) (S : Nat → Prop) (p : Option Nat) (l : List Nat) (x : Int) (h : Wr w S p false l) :
    Calls Try.prog 57 #[ptr p, .int .u32 x] w fun e w' => e = .returned (.tuple #[]) ∧ w = w' := by
  have HW := Lib.hid (writable_any w S p false l h)
  clear h
  go_enter Try.func57, Try.ntmps57
  go_wp2_with (go_at_call 52; refine HW.out.mono ?_; rintro e w' ⟨rfl, rfl⟩)
  refine bodyPost_ret (results_none rfl _ _ _) rfl ?_
  exact ⟨rfl, rfl⟩
theorem wfix64_no (w : World) (S : Nat → Prop) (p : Option Nat) (l : List Nat) (x : Int) (h : Wr w S p false l) :
    Calls Try.prog 58 #[ptr p, .int .u64 x] w fun e w' => e = .returned (.tuple #[]) ∧ w = w' := by
  have HW := Lib.hid (writable_any w S p false l h)
  clear h
  go_enter Try.func58, Try.ntmps58
  go_wp2_with (go_at_call 52; refine HW.out.mono ?_; rintro e w' ⟨rfl, rfl⟩)
  refine bodyPost_ret (results_none rfl _ _ _) rfl ?_
  exact ⟨rfl, rfl⟩
theorem wuint_any (w : World) (S : Nat → Prop) (p : Option Nat) (ok : Bool) (l : List Nat) (x : Nat) (hx : x < 18446744073709551616) (hl : l.length ≤ 1099511627776) (h : Wr w S p ok l) :
    Calls Try.prog 26 #[ptr p, .int .u64 (x : Int)] w fun e w' => e = .returned (.tuple #[]) ∧ Wrote w S p ok l (Cd.vi x) w' := by
  cases ok with
  | true =>
    obtain ⟨g, rfl⟩ := some_of_true h
    exact (wuint_some w S g l x hx hl h).mono fun e w' hh => ⟨hh.1, Wrote.of_true hh.2⟩
  | false => exact (wuint_no w S p l _ h).mono fun e w' hh => ⟨hh.1, by rw [← hh.2]; exact Wrote.of_false h _⟩
theorem wfix8_any (w : World) (S : Nat → Prop) (p : Option Nat) (ok : Bool) (l : List Nat) (x : Nat) (hx : x < 256) (hl : l.length ≤ 1099511627776) (h : Wr w S p ok l) :
    Calls Try.prog 56 #[ptr p, .int .u8 (x : Int)] w fun e w' => e = .returned (.tuple #[]) ∧ Wrote w S p ok l (Cd.fixB 1 x) w' := by
  cases ok with
  | true =>
    obtain ⟨g, rfl⟩ := some_of_true h
    exact (wfix8_some w S g l x hx hl h).mono fun e w' hh => ⟨hh.1, Wrote.of_true hh.2⟩
  | false => exact (wfix8_no w S p l _ h).mono fun e w' hh => ⟨hh.1, by rw [← hh.2]; exact Wrote.of_false h _⟩
theorem wfix16_any (w : World) (S : Nat → Prop) (p : Option Nat) (ok : Bool) (l : List Nat) (x : Nat) (hl : l.length ≤ 1099511627776) (h : Wr w S p ok l) :
    Calls Try.prog 55 #[ptr p, .int .u16 (x : Int)] w fun e w' => e = .returned (.tuple #[]) ∧ Wrote w S p ok l (Cd.fixB 2 x) w' := by
  cases ok with
  | true =>
    obtain ⟨g, rfl⟩ := some_of_true h
    exact (wfix16_some w S g l x hl h).mono fun e w' hh => ⟨hh.1, Wrote.of_true hh.2⟩
  | false => exact (wfix16_no w S p l _ h).mono fun e w' hh => ⟨hh.1, by rw [← hh.2]; exact Wrote.of_false h _⟩
theorem wfix32_any (w : World) (S : Nat → Prop) (p : Option Nat) (ok : Bool) (l : List Nat) (x : Nat) (hl : l.length ≤ 1099511627776) (h : Wr w S p ok l) :
    Calls Try.prog 57 #[ptr p, .int .u32 (x : Int)] w fun e w' => e = .returned (.tuple #[]) ∧ Wrote w S p ok l (Cd.fixB 4 x) w' := by
  cases ok with
  | true =>
    obtain ⟨g, rfl⟩ := some_of_true h
    exact (wfix32_some w S g l x hl h).mono fun e w' hh => ⟨hh.1, Wrote.of_true hh.2⟩
  | false => exact (wfix32_no w S p l _ h).mono fun e w' hh => ⟨hh.1, by rw [← hh.2]; exact Wrote.of_false h _⟩
theorem wfix64_any (w : World) (S : Nat → Prop) (p : Option Nat) (ok : Bool) (l : List Nat) (x : Nat) (hl : l.length ≤ 1099511627776) (h : Wr w S p ok l) :
    Calls Try.prog 58 #[ptr p, .int .u64 (x : Int)] w fun e w' => e = .returned (.tuple #[]) ∧ Wrote w S p ok l (Cd.fixB 8 x) w' := by
  cases ok with
  | true =>
    obtain ⟨g, rfl⟩ := some_of_true h
    exact (wfix64_some w S g l x hl h).mono fun e w' hh => ⟨hh.1, Wrote.of_true hh.2⟩
  | false => exact (wfix64_no w S p l _ h).mono fun e w' hh => ⟨hh.1, by rw [← hh.2]; exact Wrote.of_false h _⟩
theorem wu8_any (w : World) (S : Nat → Prop) (p : Option Nat) (ok : Bool) (l : List Nat) (x : Nat) (hx : x < 256) (hl : l.length ≤ 1099511627776) (h : Wr w S p ok l) :
    Calls Try.prog 31 #[ptr p, .int .u8 (x : Int)] w fun e w' => e = .returned (.tuple #[]) ∧ Wrote w S p ok l (Cd.fixB 1 x) w' := by
  have HC := Lib.hid (wfix8_any w S p ok l x hx hl h)
  clear h
  go_enter Try.func31, Try.ntmps31
  go_wp2_with (go_at_call 56; refine HC.out.mono ?_; rintro e w' ⟨rfl, hw⟩; have HW := Lib.hid hw; clear hw)
  go_end0
  exact ⟨rfl, HW.out⟩
theorem wu16_any (w : World) (S : Nat → Prop) (p : Option Nat) (ok : Bool) (l : List Nat) (x : Nat) (hl : l.length ≤ 1099511627776) (h : Wr w S p ok l) :
    Calls Try.prog 30 #[ptr p, .int .u16 (x : Int)] w fun e w' => e = .returned (.tuple #[]) ∧ Wrote w S p ok l (Cd.fixB 2 x) w' := by
  have HC := Lib.hid (wfix16_any w S p ok l x hl h)
  clear h
  go_enter Try.func30, Try.ntmps30
  go_wp2_with (go_at_call 55; refine HC.out.mono ?_; rintro e w' ⟨rfl, hw⟩; have HW := Lib.hid hw; clear hw)
  go_end0
  exact ⟨rfl, HW.out⟩
theorem wu32_any (w : World) (S : Nat → Prop) (p : Option Nat) (ok : Bool) (l : List Nat) (x : Nat) (hl : l.length ≤ 1099511627776) (h : Wr w S p ok l) :
    Calls Try.prog 33 #[ptr p, .int .u32 (x : Int)] w fun e w' => e = .returned (.tuple #[]) ∧ Wrote w S p ok l (Cd.fixB 4 x) w' := by
  have HC := Lib.hid (wfix32_any w S p ok l x hl h)
  clear h
  go_enter Try.func33, Try.ntmps33
  go_wp2_with (go_at_call 57; refine HC.out.mono ?_; rintro e w' ⟨rfl, hw⟩; have HW := Lib.hid hw; clear hw)
  go_end0
  exact ⟨rfl, HW.out⟩
theorem wu64_any (w : World) (S : Nat → Prop) (p : Option Nat) (ok : Bool) (l : List Nat) (x : Nat) (hl : l.length ≤ 1099511627776) (h : Wr w S p ok l) :
    Calls Try.prog 34 #[ptr p, .int .u64 (x : Int)] w fun e w' => e = .returned (.tuple #[]) ∧ Wrote w S p ok l (Cd.fixB 8 x) w' := by
  have HC := Lib.hid (wfix64_any w S p ok l x hl h)
  clear h
  go_enter Try.func34, Try.ntmps34
  go_wp2_with (go_at_call 58; refine HC.out.mono ?_; rintro e w' ⟨rfl, hw⟩; have HW := Lib.hid hw; clear hw)
  go_end0
  exact ⟨rfl, HW.out⟩

/-! ### Signed numbers -/
theorem ret_int {k : IntKind} {a b : Int} (h : a = b) : Ending.returned (.int k a) = .returned (.int k b) := by rw [h]
theorem not_i64 (x : Int) (h1 : -9223372036854775808 ≤ x) (h2 : x ≤ 9223372036854775807) : bits BinOp.xor .i64 (-1) x = -x - 1 := by
  show IntKind.i64.wrap ((BitVec.ofInt 64 (-1) ^^^ BitVec.ofInt 64 x).toNat : Int) = _
  have e : BitVec.ofInt 64 (-1) ^^^ BitVec.ofInt 64 x = ~~~ BitVec.ofInt 64 x := by
    rw [show BitVec.ofInt 64 (-1) = BitVec.allOnes 64 by decide, BitVec.allOnes_xor]
  rw [e, BitVec.toNat_not, BitVec.toNat_ofInt, IntKind.wrap_i64]
  omega
set_option maxRecDepth 100000 in
theorem unsigned_any (x : Int) (h1 : -9223372036854775808 ≤ x) (h2 : x ≤ 9223372036854775807) (w : World) :
    Calls Try.prog 53 #[.int .i64 x] w fun e w' => e = .returned (.int .u64 ((Cd.zz x : Nat) : Int)) ∧ w = w' := by
  by_cases hx : 0 ≤ x
  · have hz : ((Cd.zz x : Nat) : Int) = 2 * x := by unfold Cd.zz; rw [if_pos hx]; omega
    rw [hz]
    clear hz
    go_enter Try.func53, Try.ntmps53
    go_wp2
    go_ret
    exact ⟨rfl, rfl⟩
  · have hz : ((Cd.zz x : Nat) : Int) = 2 * (-x - 1) + 1 := by unfold Cd.zz; rw [if_neg hx]; omega
    have hn := not_i64 x h1 h2
    rw [hz]
    clear hz
    go_enter Try.func53, Try.ntmps53
    go_wp2
    all_goals first | (exfalso; simp_all; done) | skip
    go_ret
    show Ending.returned (Value.int .u64 (IntKind.u64.wrap (IntKind.u64.wrap (2 * IntKind.u64.wrap (-x - 1)) + 1))) = _ ∧ _
    refine ⟨ret_int ?_, rfl⟩
    simp only [IntKind.wrap_u64]
    omega
set_option maxRecDepth 100000 in
theorem fold_any (x : Int) (h1 : -9223372036854775808 ≤ x) (h2 : x ≤ 9223372036854775807) (w : World) :
    Calls Try.prog 36 #[.int .i64 x] w fun e w' => e = .returned (.int .u64 ((Cd.zz x : Nat) : Int)) ∧ w = w' := by
  by_cases hx : 0 ≤ x
  · have hz : ((Cd.zz x : Nat) : Int) = 2 * x := by unfold Cd.zz; rw [if_pos hx]; omega
    rw [hz]
    clear hz
    go_enter Try.func36, Try.ntmps36
    go_wp2
    go_ret
    exact ⟨rfl, rfl⟩
  · have hz : ((Cd.zz x : Nat) : Int) = 2 * (-(x + 1)) + 1 := by unfold Cd.zz; rw [if_neg hx]; omega
    rw [hz]
    clear hz
    go_enter Try.func36, Try.ntmps36
    go_wp2
    go_ret
    exact ⟨rfl, rfl⟩
set_option maxRecDepth 100000 in
theorem signed_any (x : Nat) (h : x < 18446744073709551616) (w : World) :
    Calls Try.prog 51 #[.int .u64 (x : Int)] w fun e w' => e = .returned (.int .i64 (Cd.unzz x)) ∧ w = w' := by
  by_cases hx : x % 2 = 0
  · have hz : Cd.unzz x = (x : Int) / 2 := by unfold Cd.unzz; rw [if_pos hx]; omega
    have hd : ((x : Int) % 2 == 0) = true := by simp; omega
    rw [hz]
    clear hz hx
    go_enter Try.func51, Try.ntmps51
    go_wp2
    go_ret
    exact ⟨rfl, rfl⟩
  · have hz : Cd.unzz x = -((x : Int) / 2) - 1 := by unfold Cd.unzz; rw [if_neg hx]; omega
    have hn := not_i64 ((x : Int) / 2) (by omega) (by omega)
    have hd : ((x : Int) % 2 == 0) = false := by simp; omega
    rw [hz]
    clear hz hx
    go_enter Try.func51, Try.ntmps51
    go_wp2
    all_goals first | (exfalso; simp_all; done) | skip
    go_ret
    exact ⟨rfl, rfl⟩
set_option maxRecDepth 100000 in
theorem unfold_any (x : Nat) (h : x < 18446744073709551616) (w : World) :
    Calls Try.prog 45 #[.int .u64 (x : Int)] w fun e w' => e = .returned (.int .i64 (Cd.unzz x)) ∧ w = w' := by
  by_cases hx : x % 2 = 0
  · have hz : Cd.unzz x = (x : Int) / 2 := by unfold Cd.unzz; rw [if_pos hx]; omega
    have hd : ((x : Int) % 2 == 0) = true := by simp; omega
    rw [hz]
    clear hz hx
    go_enter Try.func45, Try.ntmps45
    go_wp2
    go_ret
    exact ⟨rfl, rfl⟩
  · have hz : Cd.unzz x = -((x : Int) / 2) - 1 := by unfold Cd.unzz; rw [if_neg hx]; omega
    have hd : ((x : Int) % 2 == 0) = false := by simp; omega
    rw [hz]
    clear hz hx
    go_enter Try.func45, Try.ntmps45
    go_wp2
    go_ret
    exact ⟨rfl, rfl⟩
end Go.Proofs.Ytbjcojmapbiaaaa
