/-
  THE WALKS OF THE WRITER's CALLS: of any writer, sound or not, or nil: what each call writes.
-/
import Derived.Test.YtdhgbkibbileiaaGreatWalkB
import Derived.Lib.SliceRun
namespace Go.Proofs.YtdhgbkibbileiaaGreat
open Go.RowKit

def put (ok : Bool) (l k : List Nat) : List Nat := if ok then l ++ k else l
/-- k has been written to the writer p -/
def Wrote (w : World) (S : Nat → Prop) (p : Option Nat) (ok : Bool) (l k : List Nat) (w' : World) : Prop := Wr w' (Up S w) p ok (put ok l k) ∧ Fr w w' S
set_option maxRecDepth 100000 in
theorem Wrote.of_true {w w' : World} {S : Nat → Prop} {g : Nat} {l k : List Nat} (h : Wr w' (Up S w) (some g) true (l ++ k) ∧ Fr w w' S) : Wrote w S (some g) true l k w' := h
set_option maxRecDepth 100000 in
theorem Wrote.of_false {w : World} {S : Nat → Prop} {p : Option Nat} {l : List Nat} (h : Wr w S p false l) (k : List Nat) : Wrote w S p false l k w := ⟨Wr.mono h fun _ _ hb => Or.inl hb, Fr.refl _ _⟩
set_option maxRecDepth 100000 in
theorem some_of_true {w : World} {S : Nat → Prop} {p : Option Nat} {l : List Nat} (h : Wr w S p true l) : ∃ g, p = some g := by
  cases p with
  | none => exact absurd h.1 (by simp)
  | some g => exact ⟨g, rfl⟩

/-! ### Texts as bytes -/
def bs (s : ByteArray) : List Nat := s.data.toList.map UInt8.toNat
set_option maxRecDepth 100000 in
theorem bs_len (s : ByteArray) : (bs s).length = s.size := by simp [bs]
set_option maxRecDepth 100000 in
theorem bs_lt (s : ByteArray) : ∀ x ∈ bs s, x < 256 := by
  intro x hx
  simp only [bs, List.mem_map] at hx
  obtain ⟨b, _, rfl⟩ := hx
  exact b.toNat_lt
set_option maxRecDepth 100000 in
theorem bs_cells (s : ByteArray) : Lib.strCells s = u8s (bs s) := by simp [Lib.strCells, u8s, bs, Function.comp_def]
def strOf (l : List Nat) : ByteArray := ⟨(l.map UInt8.ofNat).toArray⟩
set_option maxRecDepth 100000 in
theorem strOf_bs (s : ByteArray) : strOf (bs s) = s := by
  unfold strOf bs
  have : (List.map UInt8.ofNat (List.map UInt8.toNat s.data.toList)) = s.data.toList := by
    rw [List.map_map]
    conv => rhs; rw [← List.map_id s.data.toList]
    exact List.map_congr_left fun b _ => by simp
  rw [this]
set_option maxRecDepth 100000 in
theorem bs_strOf (l : List Nat) (h : ∀ x ∈ l, x < 256) : bs (strOf l) = l := by
  unfold strOf bs
  simp only [List.map_map]
  conv => rhs; rw [← List.map_id l]
  refine List.map_congr_left fun x hx => ?_
  have := h x hx
  simp
  omega
set_option maxRecDepth 100000 in
theorem strOf_inj {l k : List Nat} (hl : ∀ x ∈ l, x < 256) (hk : ∀ x ∈ k, x < 256) (h : strOf l = strOf k) : l = k := by
  rw [← bs_strOf l hl, ← bs_strOf k hk, h]
set_option maxRecDepth 100000 in
theorem wuint_no (w : World) (S : Nat → Prop) (p : Option Nat) (l : List Nat) (x : Int) (h : Wr w S p false l) :
    Calls Tryz.prog 106 #[ptr p, .int .u64 x] w fun e w' => e = .returned (.tuple #[]) ∧ w = w' := by
  have HW := Lib.hid (writable_any w S p false l h)
  clear h
  go_enter Tryz.func106, Tryz.ntmps106
  go_wp2_with (go_at_call 95; refine HW.out.mono ?_; rintro e w' ⟨rfl, rfl⟩)
  refine bodyPost_ret (results_none rfl _ _ _) rfl ?_
  exact ⟨rfl, rfl⟩
set_option maxRecDepth 100000 in
theorem wfix8_no (w : World) (S : Nat → Prop) (p : Option Nat) (l : List Nat) (x : Int) (h : Wr w S p false l) :
    Calls Tryz.prog 68 #[ptr p, .int .u8 x] w fun e w' => e = .returned (.tuple #[]) ∧ w = w' := by
  have HW := Lib.hid (writable_any w S p false l h)
  clear h
  go_enter Tryz.func68, Tryz.ntmps68
  go_wp2_with (go_at_call 95; refine HW.out.mono ?_; rintro e w' ⟨rfl, rfl⟩)
  refine bodyPost_ret (results_none rfl _ _ _) rfl ?_
  exact ⟨rfl, rfl⟩
set_option maxRecDepth 100000 in
theorem wfix16_no (w : World) (S : Nat → Prop) (p : Option Nat) (l : List Nat) (x : Int) (h : Wr w S p false l) :
    Calls Tryz.prog 94 #[ptr p, .int .u16 x] w fun e w' => e = .returned (.tuple #[]) ∧ w = w' := by
  have HW := Lib.hid (writable_any w S p false l h)
  clear h
  go_enter Tryz.func94, Tryz.ntmps94
  go_wp2_with (go_at_call 95; refine HW.out.mono ?_; rintro e w' ⟨rfl, rfl⟩)
  refine bodyPost_ret (results_none rfl _ _ _) rfl ?_
  exact ⟨rfl, rfl⟩
set_option maxRecDepth 100000 in
theorem wuint_any (w : World) (S : Nat → Prop) (p : Option Nat) (ok : Bool) (l : List Nat) (x : Nat) (hx : x < 18446744073709551616) (hl : l.length ≤ 1099511627776) (h : Wr w S p ok l) :
    Calls Tryz.prog 106 #[ptr p, .int .u64 (x : Int)] w fun e w' => e = .returned (.tuple #[]) ∧ Wrote w S p ok l (Cd.vi x) w' := by
  cases ok with
  | true =>
    obtain ⟨g, rfl⟩ := some_of_true h
    exact (wuint_some w S g l x hx hl h).mono fun e w' hh => ⟨hh.1, Wrote.of_true hh.2⟩
  | false => exact (wuint_no w S p l _ h).mono fun e w' hh => ⟨hh.1, by rw [← hh.2]; exact Wrote.of_false h _⟩
set_option maxRecDepth 100000 in
theorem wfix8_any (w : World) (S : Nat → Prop) (p : Option Nat) (ok : Bool) (l : List Nat) (x : Nat) (hx : x < 256) (hl : l.length ≤ 1099511627776) (h : Wr w S p ok l) :
    Calls Tryz.prog 68 #[ptr p, .int .u8 (x : Int)] w fun e w' => e = .returned (.tuple #[]) ∧ Wrote w S p ok l (Cd.fixB 1 x) w' := by
  cases ok with
  | true =>
    obtain ⟨g, rfl⟩ := some_of_true h
    exact (wfix8_some w S g l x hx hl h).mono fun e w' hh => ⟨hh.1, Wrote.of_true hh.2⟩
  | false => exact (wfix8_no w S p l _ h).mono fun e w' hh => ⟨hh.1, by rw [← hh.2]; exact Wrote.of_false h _⟩
set_option maxRecDepth 100000 in
theorem wfix16_any (w : World) (S : Nat → Prop) (p : Option Nat) (ok : Bool) (l : List Nat) (x : Nat) (hl : l.length ≤ 1099511627776) (h : Wr w S p ok l) :
    Calls Tryz.prog 94 #[ptr p, .int .u16 (x : Int)] w fun e w' => e = .returned (.tuple #[]) ∧ Wrote w S p ok l (Cd.fixB 2 x) w' := by
  cases ok with
  | true =>
    obtain ⟨g, rfl⟩ := some_of_true h
    exact (wfix16_some w S g l x hl h).mono fun e w' hh => ⟨hh.1, Wrote.of_true hh.2⟩
  | false => exact (wfix16_no w S p l _ h).mono fun e w' hh => ⟨hh.1, by rw [← hh.2]; exact Wrote.of_false h _⟩
set_option maxRecDepth 100000 in
theorem wu8_any (w : World) (S : Nat → Prop) (p : Option Nat) (ok : Bool) (l : List Nat) (x : Nat) (hx : x < 256) (hl : l.length ≤ 1099511627776) (h : Wr w S p ok l) :
    Calls Tryz.prog 40 #[ptr p, .int .u8 (x : Int)] w fun e w' => e = .returned (.tuple #[]) ∧ Wrote w S p ok l (Cd.fixB 1 x) w' := by
  have HC := Lib.hid (wfix8_any w S p ok l x hx hl h)
  clear h
  go_enter Tryz.func40, Tryz.ntmps40
  go_wp2_with (go_at_call 68; refine HC.out.mono ?_; rintro e w' ⟨rfl, hw⟩; have HW := Lib.hid hw; clear hw)
  go_end0
  exact ⟨rfl, HW.out⟩
set_option maxRecDepth 100000 in
theorem wu16_any (w : World) (S : Nat → Prop) (p : Option Nat) (ok : Bool) (l : List Nat) (x : Nat) (hl : l.length ≤ 1099511627776) (h : Wr w S p ok l) :
    Calls Tryz.prog 43 #[ptr p, .int .u16 (x : Int)] w fun e w' => e = .returned (.tuple #[]) ∧ Wrote w S p ok l (Cd.fixB 2 x) w' := by
  have HC := Lib.hid (wfix16_any w S p ok l x hl h)
  clear h
  go_enter Tryz.func43, Tryz.ntmps43
  go_wp2_with (go_at_call 94; refine HC.out.mono ?_; rintro e w' ⟨rfl, hw⟩; have HW := Lib.hid hw; clear hw)
  go_end0
  exact ⟨rfl, HW.out⟩
/-! ### Signed numbers -/
set_option maxRecDepth 100000 in
theorem ret_int {k : IntKind} {a b : Int} (h : a = b) : Ending.returned (.int k a) = .returned (.int k b) := by rw [h]
set_option maxRecDepth 100000 in
theorem not_i64 (x : Int) (h1 : -9223372036854775808 ≤ x) (h2 : x ≤ 9223372036854775807) : bits BinOp.xor .i64 (-1) x = -x - 1 := by
  show IntKind.i64.wrap ((BitVec.ofInt 64 (-1) ^^^ BitVec.ofInt 64 x).toNat : Int) = _
  have e : BitVec.ofInt 64 (-1) ^^^ BitVec.ofInt 64 x = ~~~ BitVec.ofInt 64 x := by
    rw [show BitVec.ofInt 64 (-1) = BitVec.allOnes 64 by decide, BitVec.allOnes_xor]
  rw [e, BitVec.toNat_not, BitVec.toNat_ofInt, IntKind.wrap_i64]
  omega
end Go.Proofs.YtdhgbkibbileiaaGreat
