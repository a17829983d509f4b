/-
  THE WALKS OF THE READER's OTHER CALLS: Int, Raw, Text, and the fixed numbers.
-/
import Derived.Test.YtbjcojmapbiaaaaWalkG
namespace Go.Proofs.Ytbjcojmapbiaaaa
open Go.RowKit

theorem run_conv (T : Nat → Prop) (A : Option Addr) (n c : Nat) (l : List Nat) (w : World) (h : RB w T A n l) :
    (convert 27 9 (.slice A n c)).run Try.prog w = .ok (.string (strOf l)) w := by
  obtain ⟨hl, hx, h3⟩ := h
  rw [run_convert_bytes_string w 27 9 5 A n c Try.underlying27 Try.underlying5 Try.underlying9]
  rcases A with _ | ad
  · have hn : n = 0 := by
      rcases Nat.eq_zero_or_pos n with h0 | h0
      · exact h0
      · obtain ⟨_, e, _⟩ := h3 h0
        cases e
    subst hn
    have : l = [] := List.eq_nil_of_length_eq_zero hl
    subst this
    simp [Conv.bytesToString, strOf]
    rfl
  · have hload : (loadCells ad n).run Try.prog w = .ok ((l.map fun x : Nat => (x : Int)).map (Value.int .u8)).toArray w := by
      have := run_loadCells_list (P := Try.prog) w ad ((l.map fun x : Nat => (x : Int)).map (Value.int .u8)) (fun j v hj => by
        have hjl : j < l.length := by
          rcases Nat.lt_or_ge j l.length with h | h
          · exact h
          · simp [List.getElem?_eq_none h] at hj
        obtain ⟨ad', e, _, _, hc⟩ := h3 (by omega)
        cases e
        rw [hc j (by omega)]
        simp [List.getElem?_eq_getElem hjl] at hj
        subst hj
        simp [hjl])
      simpa [hl] using this
    rw [run_bytesToString w ad n c _ hload, foldl_push_bytes]
    simp [strOf, ByteArray.empty, ByteArray.emptyWithCapacity]
    rfl

theorem ru8_any (w : World) (S : Nat → Prop) (p : Option Nat) (ok : Bool) (l : List Nat) (h : Rd w S p ok l) :
    Calls Try.prog 29 #[ptr p] w fun e w' => e = .returned (.int .u8 ((valO ok (fixO l 1) 0 : Nat) : Int)) ∧ Got w S p ok l (fixO l 1) w' := by
  have HC := Lib.hid (readFix8_any w S p ok l h)
  clear h
  go_enter Try.func29, Try.ntmps29
  go_wp2_with (go_at_call 54; refine HC.out.mono ?_; rintro e w' ⟨rfl, hw⟩; have HW := Lib.hid hw; clear hw)
  go_ret
  exact ⟨rfl, HW.out⟩
theorem ru16_any (w : World) (S : Nat → Prop) (p : Option Nat) (ok : Bool) (l : List Nat) (h : Rd w S p ok l) :
    Calls Try.prog 41 #[ptr p] w fun e w' => e = .returned (.int .u16 ((valO ok (fixO l 2) 0 : Nat) : Int)) ∧ Got w S p ok l (fixO l 2) w' := by
  have HC := Lib.hid (readFix16_any w S p ok l h)
  clear h
  go_enter Try.func41, Try.ntmps41
  go_wp2_with (go_at_call 59; refine HC.out.mono ?_; rintro e w' ⟨rfl, hw⟩; have HW := Lib.hid hw; clear hw)
  go_ret
  exact ⟨rfl, HW.out⟩
theorem ru32_any (w : World) (S : Nat → Prop) (p : Option Nat) (ok : Bool) (l : List Nat) (h : Rd w S p ok l) :
    Calls Try.prog 42 #[ptr p] w fun e w' => e = .returned (.int .u32 ((valO ok (fixO l 4) 0 : Nat) : Int)) ∧ Got w S p ok l (fixO l 4) w' := by
  have HC := Lib.hid (readFix32_any w S p ok l h)
  clear h
  go_enter Try.func42, Try.ntmps42
  go_wp2_with (go_at_call 60; refine HC.out.mono ?_; rintro e w' ⟨rfl, hw⟩; have HW := Lib.hid hw; clear hw)
  go_ret
  exact ⟨rfl, HW.out⟩
theorem ru64_any (w : World) (S : Nat → Prop) (p : Option Nat) (ok : Bool) (l : List Nat) (h : Rd w S p ok l) :
    Calls Try.prog 43 #[ptr p] w fun e w' => e = .returned (.int .u64 ((valO ok (fixO l 8) 0 : Nat) : Int)) ∧ Got w S p ok l (fixO l 8) w' := by
  have HC := Lib.hid (readFix64_any w S p ok l h)
  clear h
  go_enter Try.func43, Try.ntmps43
  go_wp2_with (go_at_call 61; refine HC.out.mono ?_; rintro e w' ⟨rfl, hw⟩; have HW := Lib.hid hw; clear hw)
  go_ret
  exact ⟨rfl, HW.out⟩

/-- a signed number at the front -/
def intO (l : List Nat) : Option (Int × Nat) := (Cd.front l).map fun x => (Cd.unzz x.1, x.2)
theorem intO_val (ok : Bool) (l : List Nat) : valO ok (intO l) 0 = Cd.unzz (valO ok (Cd.front l) 0) := by
  unfold intO
  cases ok <;> cases Cd.front l <;> first | rfl | simp [valO, Cd.unzz]
theorem intO_ok (ok : Bool) (l : List Nat) : okO ok (intO l) = okO ok (Cd.front l) := by
  unfold intO
  cases ok <;> cases Cd.front l <;> rfl
theorem intO_left (ok : Bool) (l : List Nat) : leftO ok l (intO l) = leftO ok l (Cd.front l) := by
  unfold intO
  cases ok <;> cases Cd.front l <;> rfl
theorem Got.int {w w' : World} {S : Nat → Prop} {p : Option Nat} {ok : Bool} {l : List Nat} (h : Got w S p ok l (Cd.front l) w') : Got w S p ok l (intO l) w' := by
  unfold Got at h ⊢
  rw [intO_ok, intO_left]
  exact h
theorem valO_lt (ok : Bool) (l : List Nat) : valO ok (Cd.front l) 0 < 18446744073709551616 := by
  cases ok with
  | false => simp [valO]
  | true =>
    cases h : Cd.front l with
    | none => simp [valO]
    | some q => exact Cd.front_lt h
theorem rint_any (w : World) (S : Nat → Prop) (p : Option Nat) (ok : Bool) (l : List Nat) (h : Rd w S p ok l) :
    Calls Try.prog 24 #[ptr p] w fun e w' => e = .returned (.int .i64 (valO ok (intO l) 0)) ∧ Got w S p ok l (intO l) w' := by
  have HC := Lib.hid (uint_any w S p ok l h)
  have HS := Lib.hid (signed_any _ (valO_lt ok l))
  rw [intO_val]
  clear h
  go_enter Try.func24, Try.ntmps24
  go_wp2_with (first | (go_at_call 23; refine HC.out.mono ?_; rintro e w' ⟨rfl, hw⟩; have HW := Lib.hid (Got.int hw); clear hw) | (go_at_call 51; refine (HS.out _).mono ?_; rintro e w' ⟨rfl, rfl⟩))
  go_ret
  exact ⟨rfl, HW.out⟩

/-- what Raw answers: a new row -/
def Raws (w : World) (S : Nat → Prop) (p : Option Nat) (ok : Bool) (l : List Nat) (n : Int) (e : Ending) (w' : World) : Prop :=
  ∃ v k, e = .returned v ∧ k = (valO ok (takeO l n) []).length ∧ Ow w' (fun b => w.heap.size ≤ b) v k (valO ok (takeO l n) []) ∧ Got w S p ok l (takeO l n) w'
theorem Rd.up {w : World} {S : Nat → Prop} {p : Option Nat} {ok : Bool} {l : List Nat} (h : Rd w S p ok l) : Rd w (fun b => S b ∧ b < w.heap.size) p ok l := Rd.mono h fun _ hb hs => ⟨hs, hb⟩

set_option maxRecDepth 100000 in
theorem rraw_any (w : World) (S : Nat → Prop) (p : Option Nat) (ok : Bool) (l : List Nat) (n : Int) (h1 : -9223372036854775808 ≤ n) (h2 : n ≤ 9223372036854775807) (h : Rd w S p ok l) :
    Calls Try.prog 47 #[ptr p, .int .i64 n] w (Raws w S p ok l n) := by
  have HT := Lib.hid (take_any w S p ok l n h1 h2 h)
  clear h
  go_enter Try.func47, Try.ntmps47
  go_wp2_with fail
  refine HT.out.mono ?_
  rintro e w1 ⟨A, m, c, rfl, hr, hm, hd, hf⟩
  have hsz := hf.size
  have HC := Lib.hid (clone_any w1 _ A m c _ hr hm)
  have HD := Lib.hid (Rd.up hd)
  have HF := Lib.hid hf
  clear hr hd hf
  go_wp2_with fail
  refine HC.out.mono ?_
  rintro e w2 ⟨v, rfl, ho, hb⟩
  have HO := Lib.hid ho
  have HB := Lib.hid hb
  clear ho hb
  go_wp2
  go_ret
  have hfb := Fr.of_below HB.out (fun b => w1.heap.size ≤ b)
  refine ⟨v, _, rfl, rfl, HO.out.mono fun b _ hb => by omega, (Rd.keep HD.out hfb fun b hb => by omega).mono fun b _ hb => hb.1, HF.out.trans hfb fun b hb => Or.inr (by omega)⟩
end Go.Proofs.Ytbjcojmapbiaaaa
